/- Texts of one package, joined: First, Every. -/
import Derived.Test.YtlaakmgdbhabfaaC1
import Derived.Deep.LoopGhost
import Derived.Shelf.Abstract
/- first, every instance: the index of the first element of which a handed predicate says yes, or the length. -/
namespace Go.Proofs.Ytlaakmgdbhabfaa
open Go.RowKit Go.Shelf

def encI (x : Int) : List Value := [.int .i64 x]
def encS (x : Int × Int) : List Value := [.int .i64 x.1, .int .i64 x.2]
def encD (x : Int × Int × Int) : List Value := [.int .i64 x.1, .int .i64 x.2.1, .int .i64 x.2.2]

set_option maxHeartbeats 400000 in
theorem first64 (g : Nat) (lb : Array Value) (eg : ∀ args w, (callFunc g args).run Try.prog w = .ok (.enter g args) w) (p : Int → Bool) (A : Option Addr) (n c : Nat) (xs : List (Int)) (w : World) (hnn : n = xs.length)
    (hn : n ≤ 9223372036854775807) (hh : Held w w.heap.size 1 encI A xs) (hp : PredOn g lb (Value.int .i64) p xs w) :
    Calls Try.prog 109 #[.slice A n c, .func (.func g) #[] lb] w fun e w' => e = .returned (.int .i64 (xs.findIdx p)) ∧ Below w.heap.size w w' := by
  have HN := Lib.hid hnn; clear hnn
  go_enter Try.func109, Try.ntmps109
  go_wp2
  go_loopw [5, 6, 9] (fun _ _ i wr => ∃ k : Nat, k ≤ n ∧ i = .int .i64 k ∧ Hid (Below w.heap.size w wr) ∧ Hid (∀ j (hj : j < k) (hl : j < xs.length), p xs[j] = false)) (fun _ _ i _ => n - (intOf i).toNat)
  case atStart => exact ⟨0, Nat.zero_le _, rfl, Lib.hid (Below.refl _ _), Lib.hid (fun j hj => absurd hj (Nat.not_lt_zero _))⟩
  case round =>
    obtain ⟨k, hk, rfl, hB, hA⟩ := hrel
    by_cases hlt : k < n
    · have hltz : (k : Int) < (n : Int) := by omega
      have hkl : k < xs.length := by rw [← HN.out]; exact hlt
      obtain ⟨x, hx⟩ : ∃ x, x = xs[k] := ⟨_, rfl⟩
      have hcell : ∃ b off, A = some ⟨b, off, none⟩ ∧ wr.cell? ⟨b, off + k, none⟩ = some (.int .i64 x) := by
        rcases hh with h | ⟨b, off, rfl, hlt', hc⟩
        · simp [h] at hkl
        · refine ⟨b, off, rfl, ?_⟩
          have := hc k x (by rw [hx]; exact List.getElem?_eq_getElem hkl) 0 _ rfl
          have h2 := (hB.out.cell (p := ⟨b, off + k * 1 + 0, none⟩) hlt').trans this
          simpa using h2
      obtain ⟨b, off, rfl, hcell⟩ := hcell
      have hcall := hp wr x (by rw [hx]; exact List.getElem_mem hkl) hB.out
      
      have HX := Lib.hid hx; clear hx
      clear hp hh
      cases hq : p x with
      | true =>
        rw [hq] at hcall
        go_wp2_with (go_at_fn g; refine hcall.mono ?_; rintro e w' ⟨rfl, hb'⟩)
        go_ret
        refine ⟨?_, bstep hB.out hB.out.size hb'⟩
        rw [findIdx_hit p xs k hkl (fun j hj => hA.out j hj (by omega)) (by rw [← HX.out]; exact hq)]
        rfl
      | false =>
        rw [hq] at hcall
        go_wp2_with (go_at_fn g; refine hcall.mono ?_; rintro e w' ⟨rfl, hb'⟩)
        go_roundw
        case measure => simp [intOf]; omega
        case rel =>
          refine ⟨k + 1, by omega, by go_num, Lib.hid (bstep hB.out hB.out.size hb'), Lib.hid fun j hj hl => ?_⟩
          by_cases e : j = k
          · subst e
            rw [← HX.out]; exact hq
          · exact hA.out j (by omega) hl
    · have hltz : ¬ (k : Int) < (n : Int) := by omega
      have : k = n := by omega
      subst this
      go_wp2
      go_ret
      refine ⟨?_, hB.out⟩
      rw [findIdx_miss p xs (fun j hj => hA.out j (by rw [HN.out]; exact hj) hj), ← HN.out]
      rfl

set_option maxHeartbeats 400000 in
theorem firstComb (g : Nat) (lb : Array Value) (eg : ∀ args w, (callFunc g args).run Try.prog w = .ok (.enter g args) w) (p : Int × Int → Bool) (A : Option Addr) (n c : Nat) (xs : List (Int × Int)) (w : World) (hnn : n = xs.length)
    (hn : n ≤ 9223372036854775807) (hh : Held w w.heap.size 2 encS A xs) (hp : PredOn g lb (fun x => .agg (encS x).toArray) p xs w) :
    Calls Try.prog 64 #[.slice A n c, .func (.func g) #[] lb] w fun e w' => e = .returned (.int .i64 (xs.findIdx p)) ∧ Below w.heap.size w w' := by
  have HN := Lib.hid hnn; clear hnn
  go_enter Try.func64, Try.ntmps64
  go_wp2
  go_loopw [5, 6, 9] (fun _ _ i wr => ∃ k : Nat, k ≤ n ∧ i = .int .i64 k ∧ Hid (Below w.heap.size w wr) ∧ Hid (∀ j (hj : j < k) (hl : j < xs.length), p xs[j] = false)) (fun _ _ i _ => n - (intOf i).toNat)
  case atStart => exact ⟨0, Nat.zero_le _, rfl, Lib.hid (Below.refl _ _), Lib.hid (fun j hj => absurd hj (Nat.not_lt_zero _))⟩
  case round =>
    obtain ⟨k, hk, rfl, hB, hA⟩ := hrel
    by_cases hlt : k < n
    · have hltz : (k : Int) < (n : Int) := by omega
      have hkl : k < xs.length := by rw [← HN.out]; exact hlt
      obtain ⟨x, hx⟩ : ∃ x, x = xs[k] := ⟨_, rfl⟩
      have hcell : ∃ b off, A = some ⟨b, off, none⟩ ∧ wr.cell? ⟨b, off + k * 2, none⟩ = some (.int .i64 x.1) ∧ wr.cell? ⟨b, off + k * 2 + 1, none⟩ = some (.int .i64 x.2) := by
        rcases hh with h | ⟨b, off, rfl, hlt', hc⟩
        · simp [h] at hkl
        · refine ⟨b, off, rfl, ?_, ?_⟩
          · exact (hB.out.cell (p := ⟨b, off + k * 2 + 0, none⟩) hlt').trans (hc k x (by rw [hx]; exact List.getElem?_eq_getElem hkl) 0 _ rfl)
          · exact (hB.out.cell (p := ⟨b, off + k * 2 + 1, none⟩) hlt').trans (hc k x (by rw [hx]; exact List.getElem?_eq_getElem hkl) 1 _ rfl)
      obtain ⟨b, off, rfl, hcell0, hcell1⟩ := hcell
      have hcall := hp (wr.alloc (.cells (encS x).toArray 65)) x (by rw [hx]; exact List.getElem_mem hkl) (hB.out.alloc hB.out.size _)
      simp only [encS] at hcall
      have HX := Lib.hid hx; clear hx
      clear hp hh
      cases hq : p x with
      | true =>
        rw [hq] at hcall
        go_wp2_with (go_at_fn g; refine hcall.mono ?_; rintro e w' ⟨rfl, hb'⟩)
        go_ret
        refine ⟨?_, bstep (hB.out.alloc hB.out.size _) (by have := hB.out.size; simp; omega) hb'⟩
        rw [findIdx_hit p xs k hkl (fun j hj => hA.out j hj (by omega)) (by rw [← HX.out]; exact hq)]
        rfl
      | false =>
        rw [hq] at hcall
        go_wp2_with (go_at_fn g; refine hcall.mono ?_; rintro e w' ⟨rfl, hb'⟩)
        go_roundw
        case measure => simp [intOf]; omega
        case rel =>
          refine ⟨k + 1, by omega, by go_num, Lib.hid (bstep (hB.out.alloc hB.out.size _) (by have := hB.out.size; simp; omega) hb'), Lib.hid fun j hj hl => ?_⟩
          by_cases e : j = k
          · subst e
            rw [← HX.out]; exact hq
          · exact hA.out j (by omega) hl
    · have hltz : ¬ (k : Int) < (n : Int) := by omega
      have : k = n := by omega
      subst this
      go_wp2
      go_ret
      refine ⟨?_, hB.out⟩
      rw [findIdx_miss p xs (fun j hj => hA.out j (by rw [HN.out]; exact hj) hj), ← HN.out]
      rfl

set_option maxHeartbeats 400000 in
theorem firstRow (g : Nat) (lb : Array Value) (eg : ∀ args w, (callFunc g args).run Try.prog w = .ok (.enter g args) w) (p : Int × Int → Bool) (A : Option Addr) (n c : Nat) (xs : List (Int × Int)) (w : World) (hnn : n = xs.length)
    (hn : n ≤ 9223372036854775807) (hh : Held w w.heap.size 2 encS A xs) (hp : PredOn g lb (fun x => .agg (encS x).toArray) p xs w) :
    Calls Try.prog 87 #[.slice A n c, .func (.func g) #[] lb] w fun e w' => e = .returned (.int .i64 (xs.findIdx p)) ∧ Below w.heap.size w w' := by
  have HN := Lib.hid hnn; clear hnn
  go_enter Try.func87, Try.ntmps87
  go_wp2
  go_loopw [5, 6, 9] (fun _ _ i wr => ∃ k : Nat, k ≤ n ∧ i = .int .i64 k ∧ Hid (Below w.heap.size w wr) ∧ Hid (∀ j (hj : j < k) (hl : j < xs.length), p xs[j] = false)) (fun _ _ i _ => n - (intOf i).toNat)
  case atStart => exact ⟨0, Nat.zero_le _, rfl, Lib.hid (Below.refl _ _), Lib.hid (fun j hj => absurd hj (Nat.not_lt_zero _))⟩
  case round =>
    obtain ⟨k, hk, rfl, hB, hA⟩ := hrel
    by_cases hlt : k < n
    · have hltz : (k : Int) < (n : Int) := by omega
      have hkl : k < xs.length := by rw [← HN.out]; exact hlt
      obtain ⟨x, hx⟩ : ∃ x, x = xs[k] := ⟨_, rfl⟩
      have hcell : ∃ b off, A = some ⟨b, off, none⟩ ∧ wr.cell? ⟨b, off + k * 2, none⟩ = some (.int .i64 x.1) ∧ wr.cell? ⟨b, off + k * 2 + 1, none⟩ = some (.int .i64 x.2) := by
        rcases hh with h | ⟨b, off, rfl, hlt', hc⟩
        · simp [h] at hkl
        · refine ⟨b, off, rfl, ?_, ?_⟩
          · exact (hB.out.cell (p := ⟨b, off + k * 2 + 0, none⟩) hlt').trans (hc k x (by rw [hx]; exact List.getElem?_eq_getElem hkl) 0 _ rfl)
          · exact (hB.out.cell (p := ⟨b, off + k * 2 + 1, none⟩) hlt').trans (hc k x (by rw [hx]; exact List.getElem?_eq_getElem hkl) 1 _ rfl)
      obtain ⟨b, off, rfl, hcell0, hcell1⟩ := hcell
      have hcall := hp (wr.alloc (.cells (encS x).toArray 27)) x (by rw [hx]; exact List.getElem_mem hkl) (hB.out.alloc hB.out.size _)
      simp only [encS] at hcall
      have HX := Lib.hid hx; clear hx
      clear hp hh
      cases hq : p x with
      | true =>
        rw [hq] at hcall
        go_wp2_with (go_at_fn g; refine hcall.mono ?_; rintro e w' ⟨rfl, hb'⟩)
        go_ret
        refine ⟨?_, bstep (hB.out.alloc hB.out.size _) (by have := hB.out.size; simp; omega) hb'⟩
        rw [findIdx_hit p xs k hkl (fun j hj => hA.out j hj (by omega)) (by rw [← HX.out]; exact hq)]
        rfl
      | false =>
        rw [hq] at hcall
        go_wp2_with (go_at_fn g; refine hcall.mono ?_; rintro e w' ⟨rfl, hb'⟩)
        go_roundw
        case measure => simp [intOf]; omega
        case rel =>
          refine ⟨k + 1, by omega, by go_num, Lib.hid (bstep (hB.out.alloc hB.out.size _) (by have := hB.out.size; simp; omega) hb'), Lib.hid fun j hj hl => ?_⟩
          by_cases e : j = k
          · subst e
            rw [← HX.out]; exact hq
          · exact hA.out j (by omega) hl
    · have hltz : ¬ (k : Int) < (n : Int) := by omega
      have : k = n := by omega
      subst this
      go_wp2
      go_ret
      refine ⟨?_, hB.out⟩
      rw [findIdx_miss p xs (fun j hj => hA.out j (by rw [HN.out]; exact hj) hj), ← HN.out]
      rfl

set_option maxHeartbeats 400000 in
theorem firstRg (g : Nat) (lb : Array Value) (eg : ∀ args w, (callFunc g args).run Try.prog w = .ok (.enter g args) w) (p : Int × Int → Bool) (A : Option Addr) (n c : Nat) (xs : List (Int × Int)) (w : World) (hnn : n = xs.length)
    (hn : n ≤ 9223372036854775807) (hh : Held w w.heap.size 2 encS A xs) (hp : PredOn g lb (fun x => .agg (encS x).toArray) p xs w) :
    Calls Try.prog 120 #[.slice A n c, .func (.func g) #[] lb] w fun e w' => e = .returned (.int .i64 (xs.findIdx p)) ∧ Below w.heap.size w w' := by
  have HN := Lib.hid hnn; clear hnn
  go_enter Try.func120, Try.ntmps120
  go_wp2
  go_loopw [5, 6, 9] (fun _ _ i wr => ∃ k : Nat, k ≤ n ∧ i = .int .i64 k ∧ Hid (Below w.heap.size w wr) ∧ Hid (∀ j (hj : j < k) (hl : j < xs.length), p xs[j] = false)) (fun _ _ i _ => n - (intOf i).toNat)
  case atStart => exact ⟨0, Nat.zero_le _, rfl, Lib.hid (Below.refl _ _), Lib.hid (fun j hj => absurd hj (Nat.not_lt_zero _))⟩
  case round =>
    obtain ⟨k, hk, rfl, hB, hA⟩ := hrel
    by_cases hlt : k < n
    · have hltz : (k : Int) < (n : Int) := by omega
      have hkl : k < xs.length := by rw [← HN.out]; exact hlt
      obtain ⟨x, hx⟩ : ∃ x, x = xs[k] := ⟨_, rfl⟩
      have hcell : ∃ b off, A = some ⟨b, off, none⟩ ∧ wr.cell? ⟨b, off + k * 2, none⟩ = some (.int .i64 x.1) ∧ wr.cell? ⟨b, off + k * 2 + 1, none⟩ = some (.int .i64 x.2) := by
        rcases hh with h | ⟨b, off, rfl, hlt', hc⟩
        · simp [h] at hkl
        · refine ⟨b, off, rfl, ?_, ?_⟩
          · exact (hB.out.cell (p := ⟨b, off + k * 2 + 0, none⟩) hlt').trans (hc k x (by rw [hx]; exact List.getElem?_eq_getElem hkl) 0 _ rfl)
          · exact (hB.out.cell (p := ⟨b, off + k * 2 + 1, none⟩) hlt').trans (hc k x (by rw [hx]; exact List.getElem?_eq_getElem hkl) 1 _ rfl)
      obtain ⟨b, off, rfl, hcell0, hcell1⟩ := hcell
      have hcall := hp (wr.alloc (.cells (encS x).toArray 75)) x (by rw [hx]; exact List.getElem_mem hkl) (hB.out.alloc hB.out.size _)
      simp only [encS] at hcall
      have HX := Lib.hid hx; clear hx
      clear hp hh
      cases hq : p x with
      | true =>
        rw [hq] at hcall
        go_wp2_with (go_at_fn g; refine hcall.mono ?_; rintro e w' ⟨rfl, hb'⟩)
        go_ret
        refine ⟨?_, bstep (hB.out.alloc hB.out.size _) (by have := hB.out.size; simp; omega) hb'⟩
        rw [findIdx_hit p xs k hkl (fun j hj => hA.out j hj (by omega)) (by rw [← HX.out]; exact hq)]
        rfl
      | false =>
        rw [hq] at hcall
        go_wp2_with (go_at_fn g; refine hcall.mono ?_; rintro e w' ⟨rfl, hb'⟩)
        go_roundw
        case measure => simp [intOf]; omega
        case rel =>
          refine ⟨k + 1, by omega, by go_num, Lib.hid (bstep (hB.out.alloc hB.out.size _) (by have := hB.out.size; simp; omega) hb'), Lib.hid fun j hj hl => ?_⟩
          by_cases e : j = k
          · subst e
            rw [← HX.out]; exact hq
          · exact hA.out j (by omega) hl
    · have hltz : ¬ (k : Int) < (n : Int) := by omega
      have : k = n := by omega
      subst this
      go_wp2
      go_ret
      refine ⟨?_, hB.out⟩
      rw [findIdx_miss p xs (fun j hj => hA.out j (by rw [HN.out]; exact hj) hj), ← HN.out]
      rfl

end Go.Proofs.Ytlaakmgdbhabfaa

/- every, every instance: whether a handed predicate says yes of all elements. -/
namespace Go.Proofs.Ytlaakmgdbhabfaa
open Go.RowKit Go.Shelf

theorem all_of_findIdx {α : Type} (p : α → Bool) (xs : List α) : (((xs.findIdx fun x => !p x : Nat) : Int) == (xs.length : Int)) = xs.all p := by
  rw [Bool.eq_iff_iff, beq_iff_eq, List.all_eq_true]
  constructor
  · intro h x hx
    have h' : (xs.findIdx fun x => !p x) = xs.length := by omega
    have := (List.findIdx_eq_length.1 h') x hx
    simpa using this
  · intro h
    have : (xs.findIdx fun x => !p x) = xs.length := List.findIdx_eq_length.2 fun x hx => by simp [h x hx]
    omega

set_option maxHeartbeats 400000 in
theorem bad64 (g : Nat) (lb : Array Value) (eg : ∀ args w, (callFunc g args).run Try.prog w = .ok (.enter g args) w) (p : Int → Bool) (B : Nat) (xs : List (Int)) (w : World)
    (hp : PredOn g lb (Value.int .i64) p xs w) (hB : B < w.heap.size) (hc : w.cell? ⟨B, 0, none⟩ = some (.func (.func g) #[] lb)) :
    PredOn 108 #[.pointer (some ⟨B, 0, none⟩)] (Value.int .i64) (fun x => !p x) xs w := fun W x hx hb => by
  have hc' : W.cell? ⟨B, 0, none⟩ = some (.func (.func g) #[] lb) := (hb.cell (p := ⟨B, 0, none⟩) hB).trans hc
  have hBW : B < W.heap.size := Nat.lt_of_lt_of_le hB hb.size
  have hne : B ≠ W.heap.size := by omega
  have hcall := hp W x hx hb
  
  clear hp hc
  show Calls Try.prog 108 #[.int .i64 x, .pointer (some ⟨B, 0, none⟩)] W fun e w' => e = .returned (.bool !p x) ∧ Below W.heap.size W w'
  generalize p x = q at hcall ⊢
  go_enter Try.func108, Try.ntmps108
  go_wp2_with (go_at_fn g; refine hcall.mono ?_; rintro e w' ⟨rfl, hb'⟩)
  go_ret
  exact ⟨rfl, hb'⟩

set_option maxHeartbeats 400000 in
theorem every64 (g : Nat) (lb : Array Value) (eg : ∀ args w, (callFunc g args).run Try.prog w = .ok (.enter g args) w) (p : Int → Bool) (A : Option Addr) (n c : Nat) (xs : List (Int)) (w : World) (hnn : n = xs.length)
    (hn : n ≤ 9223372036854775807) (hh : Held w w.heap.size 1 encI A xs) (hp : PredOn g lb (Value.int .i64) p xs w) :
    Calls Try.prog 92 #[.slice A n c, .func (.func g) #[] lb] w fun e w' => e = .returned (.bool (xs.all p)) ∧ Below w.heap.size w w' := by
  have e2 : ∀ args w, (callFunc 108 args).run Try.prog w = .ok (.enter 108 args) w := enters_of Try.func108 (by kernel_rfl) rfl
  have hb0 : Below w.heap.size w (w.alloc (.cells #[.func (.func g) #[] lb] 135)) := (Below.refl _ w).alloc (Nat.le_refl _) _
  have hcon := first64 108 #[.pointer (some ⟨w.heap.size, 0, none⟩)] e2 (fun x => !p x) A n c xs (w.alloc (.cells #[.func (.func g) #[] lb] 135)) hnn hn
    ((hh.kept hb0 (Nat.le_refl _)).wider (by simp)) (bad64 g lb eg p w.heap.size xs _ (fun W x hx hb => hp W x hx (hb0.trans (hb.mono (by simp)))) (by simp) (by simp))
  have HA := all_of_findIdx p xs
  rw [← hnn] at HA
  generalize xs.findIdx (fun x => !p x) = r at hcon HA
  generalize xs.all p = q at HA ⊢
  have HQ := Lib.hid HA; clear HA hp hh hnn
  go_enter Try.func92, Try.ntmps92
  go_wp2_with (go_at_call 109; refine hcon.mono ?_; rintro e w' ⟨rfl, hb'⟩)
  go_ret
  exact ⟨ret_bool HQ.out, bstep hb0 (by simp) hb'⟩

end Go.Proofs.Ytlaakmgdbhabfaa
