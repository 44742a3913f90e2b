/- Texts of one package, joined: CountPure, CountSheet, KindPure. -/
import Derived.Test.YtchmdkdiilaejaaC29
/- In how many ways rows have all marks: sums over sets of marks, and lists of rows, in plain mathematics. -/
namespace Go.Proofs.Ytchmdkdiilaejaa
open Go.RowKit Go.Shelf

/-- The sum of the first numbers. -/
def sumTo : Nat → (Nat → Nat) → Nat
  | 0, _ => 0
  | t + 1, f => sumTo t f + f t
theorem sumTo_congr {f g : Nat → Nat} : ∀ (t : Nat), (∀ i, i < t → f i = g i) → sumTo t f = sumTo t g
  | 0, _ => rfl
  | t + 1, h => by rw [sumTo, sumTo, sumTo_congr t fun i hi => h i (by omega), h t (by omega)]
theorem sumTo_add (f g : Nat → Nat) : ∀ (t : Nat), sumTo t (fun i => f i + g i) = sumTo t f + sumTo t g
  | 0 => rfl
  | t + 1 => by rw [sumTo, sumTo, sumTo, sumTo_add f g t]; omega
theorem sumTo_mul (c : Nat) (f : Nat → Nat) : ∀ (t : Nat), sumTo t (fun i => c * f i) = c * sumTo t f
  | 0 => rfl
  | t + 1 => by rw [sumTo, sumTo, sumTo_mul c f t, Nat.mul_add]
theorem sumTo_zero : ∀ (t : Nat), sumTo t (fun _ => 0) = 0
  | 0 => rfl
  | t + 1 => by rw [sumTo, sumTo_zero t]
theorem sumTo_single (k v : Nat) : ∀ (t : Nat), sumTo t (fun i => if i = k then v else 0) = if k < t then v else 0
  | 0 => rfl
  | t + 1 => by
    rw [sumTo, sumTo_single k v t]
    by_cases h : t = k
    · subst h; simp
    · rw [if_neg h]
      by_cases h2 : k < t
      · rw [if_pos h2, if_pos (by omega)]; rfl
      · rw [if_neg h2, if_neg (by omega)]
theorem sumTo_comm (F : Nat → Nat → Nat) (m : Nat) : ∀ (t : Nat), sumTo t (fun i => sumTo m (fun j => F i j)) = sumTo m (fun j => sumTo t (fun i => F i j))
  | 0 => by simp only [sumTo]; rw [sumTo_zero]
  | t + 1 => by
    simp only [sumTo]
    rw [sumTo_comm F m t, sumTo_add]
/-- A sum over unions. -/
theorem sum_push {T k : Nat} (hk : ∀ b, b < T → b ||| k < T) (S w : Nat → Nat) : sumTo T (fun s => sumTo T (fun b => if b ||| k = s then S b else 0) * w s) = sumTo T fun b => S b * w (b ||| k) := by
  have h1 : sumTo T (fun s => sumTo T (fun b => if b ||| k = s then S b else 0) * w s) = sumTo T fun s => sumTo T fun b => if s = b ||| k then S b * w (b ||| k) else 0 := by
    refine sumTo_congr T fun s _ => ?_
    rw [Nat.mul_comm, ← sumTo_mul]
    refine sumTo_congr T fun b _ => ?_
    by_cases e : b ||| k = s
    · rw [if_pos e, if_pos e.symm, e, Nat.mul_comm]
    · rw [if_neg e, if_neg (fun h => e h.symm), Nat.mul_zero]
  rw [h1, sumTo_comm]
  refine sumTo_congr T fun b hb => ?_
  rw [sumTo_single, if_pos (hk b hb)]

/-- One more set of marks, of which there are so many rows, without a bound. -/
def ustep (T : Nat) (S : Nat → Nat → Nat) (p : Nat × Nat) : Nat → Nat → Nat
  | 0, s => S 0 s
  | n + 1, s => S (n + 1) s + p.2 * sumTo T (fun b => if b ||| p.1 = s then S n b else 0)
def start (h : Nat) : Nat → Nat → Nat := fun n s => if n = 0 ∧ s = h then 1 else 0
/-- The sum over all lists of so many sets of what w says of their union with h. -/
def vw (h : Nat) : List (Nat × Nat) → Nat → (Nat → Nat) → Nat
  | [], n, w => if n = 0 then w h else 0
  | _ :: P, 0, w => vw h P 0 w
  | p :: P, n + 1, w => vw h P (n + 1) w + p.2 * vw h P n (fun s => w (s ||| p.1))
/-- In how many ways so many sets have, with h, all marks. -/
def cw (A : Nat) : List (Nat × Nat) → Nat → Nat → Nat
  | [], n, h => if n = 0 ∧ h = A then 1 else 0
  | _ :: P, 0, h => cw A P 0 h
  | p :: P, n + 1, h => cw A P (n + 1) h + p.2 * cw A P n (h ||| p.1)
theorem vw_cw (A h0 : Nat) : ∀ (P : List (Nat × Nat)) (n h : Nat), vw h0 P n (fun s => if h ||| s = A then 1 else 0) = cw A P n (h ||| h0)
  | [], n, h => by
    unfold vw cw
    by_cases e : n = 0
    · simp [e]
    · simp [e]
  | p :: P, 0, h => by unfold vw cw; exact vw_cw A h0 P 0 h
  | p :: P, n + 1, h => by
    have h2 : (fun s => if h ||| (s ||| p.1) = A then 1 else 0) = fun s => if (h ||| p.1) ||| s = A then 1 else 0 := by
      funext s
      rw [Nat.or_comm s, ← Nat.or_assoc]
    rw [vw, cw, vw_cw A h0 P (n + 1) h, h2, vw_cw A h0 P n (h ||| p.1), Nat.or_assoc h, Nat.or_comm p.1, ← Nat.or_assoc]
theorem ufold_vw {T h0 : Nat} (hh : h0 < T) : ∀ (P : List (Nat × Nat)), (∀ p, p ∈ P → ∀ b, b < T → b ||| p.1 < T) → ∀ (n : Nat) (w : Nat → Nat), sumTo T (fun s => P.foldr (fun p S => ustep T S p) (start h0) n s * w s) = vw h0 P n w
  | [], _, n, w => by
    show sumTo T (fun s => start h0 n s * w s) = if n = 0 then w h0 else 0
    unfold start
    by_cases e : n = 0
    · subst e
      rw [if_pos rfl]
      have : sumTo T (fun s => (if 0 = 0 ∧ s = h0 then 1 else 0) * w s) = sumTo T fun s => if s = h0 then w h0 else 0 := by
        refine sumTo_congr T fun s _ => ?_
        by_cases e2 : s = h0
        · subst e2; simp
        · simp [e2]
      rw [this, sumTo_single, if_pos hh]
    · rw [if_neg e]
      have : sumTo T (fun s => (if n = 0 ∧ s = h0 then 1 else 0) * w s) = sumTo T fun _ => 0 := sumTo_congr T fun s _ => by simp [e]
      rw [this, sumTo_zero]
  | p :: P, h, 0, w => by
    rw [vw, ← ufold_vw hh P (fun q hq => h q (by simp [hq])) 0 w]
    rfl
  | p :: P, h, n + 1, w => by
    rw [vw, ← ufold_vw hh P (fun q hq => h q (by simp [hq])) (n + 1) w, ← ufold_vw hh P (fun q hq => h q (by simp [hq])) n (fun s => w (s ||| p.1)), ← sum_push (h p (by simp)), ← sumTo_mul, ← sumTo_add]
    refine sumTo_congr T fun s _ => ?_
    rw [List.foldr_cons, ustep, Nat.add_mul, Nat.mul_assoc]
/-- What is counted at the set of all marks. -/
theorem ufold_all {T A h0 : Nat} (hA : A < T) (hh : h0 < T) (P : List (Nat × Nat)) (hP : ∀ p, p ∈ P → ∀ b, b < T → b ||| p.1 < T) (n : Nat) : P.foldr (fun p S => ustep T S p) (start h0) n A = cw A P n h0 := by
  have h1 := ufold_vw hh P hP n fun s => if (0 : Nat) ||| s = A then 1 else 0
  rw [vw_cw, Nat.zero_or] at h1
  rw [← h1]
  have : sumTo T (fun s => P.foldr (fun p S => ustep T S p) (start h0) n s * (if (0 : Nat) ||| s = A then 1 else 0)) = sumTo T fun s => if s = A then P.foldr (fun p S => ustep T S p) (start h0) n A else 0 := by
    refine sumTo_congr T fun s _ => ?_
    rw [Nat.zero_or]
    by_cases e : s = A
    · subst e; simp
    · simp [e]
  rw [this, sumTo_single, if_pos hA]

/-- The bound does not turn sums but where they are above it. -/
theorem cap_add {C x y : Int} {a : Nat} (hC : 0 ≤ C) (hx : 0 ≤ x) (hy : 0 ≤ y) : min (min x C + min y C * (a : Int)) C = min (x + y * (a : Int)) C := by
  have h1 : 0 ≤ y * (a : Int) := Int.mul_nonneg hy (by omega)
  by_cases hyC : y ≤ C
  · rw [Int.min_eq_left hyC]
    omega
  · rw [Int.min_eq_right (a := y) (by omega)]
    rcases Nat.eq_zero_or_pos a with e | e
    · subst e
      simp
    · have h2 : C * 1 ≤ C * (a : Int) := Int.mul_le_mul_of_nonneg_left (by omega) hC
      have h3 : C * (a : Int) ≤ y * (a : Int) := Int.mul_le_mul_of_nonneg_right (by omega) (by omega)
      omega
theorem addTo_is {prev row : Nat → Int} {p r : Nat → Nat} {set a : Nat} (hp : ∀ s, prev s = min (p s : Int) CAP) (hr : ∀ s, row s = min (r s : Int) CAP) : ∀ (t s : Nat), addTo prev row set (a : Int) t s = min ((r s + a * sumTo t (fun b => if b ||| set = s then p b else 0) : Nat) : Int) CAP
  | 0, s => by unfold addTo sumTo; rw [hr]; simp
  | t + 1, s => by
    unfold addTo sumTo
    dsimp only
    rw [addTo_is hp hr t s]
    by_cases e : s = t ||| set
    · rw [if_pos e, if_pos (show t ||| set = s from e.symm), hp, cap_add (by decide) (by omega) (by omega)]
      congr 1
      rw [Nat.mul_add]
      simp only [Int.natCast_add, Int.natCast_mul]
      rw [Int.mul_comm (p t : Int)]
      omega
    · rw [if_neg e, if_neg (show ¬ t ||| set = s from fun h => e h.symm), Nat.add_zero]
theorem keyStep_is {T : Nat} {S : Nat → Nat → Int} {U : Nat → Nat → Nat} (h : ∀ n s, S n s = min (U n s : Int) CAP) (p : Nat × Nat) : ∀ n s, keyStep T S p n s = min (ustep T U p n s : Int) CAP
  | 0, s => by unfold keyStep ustep; rw [if_pos rfl]; exact h 0 s
  | n + 1, s => by
    unfold keyStep ustep
    rw [if_neg (by omega), show n + 1 - 1 = n from rfl]
    exact addTo_is (h n) (h (n + 1)) T s
theorem fold_is {T : Nat} : ∀ (P : List (Nat × Nat)) (S : Nat → Nat → Int) (U : Nat → Nat → Nat), (∀ n s, S n s = min (U n s : Int) CAP) → ∀ n s, P.foldl (keyStep T) S n s = min (P.foldl (ustep T) U n s : Int) CAP
  | [], _, _, h => h
  | p :: P, _, _, h => fold_is P _ _ (keyStep_is h p)

theorem cw_perm (A : Nat) {P Q : List (Nat × Nat)} (h : P.Perm Q) : ∀ n x, cw A P n x = cw A Q n x := by
  induction h with
  | nil => intro n x; rfl
  | cons p _ ih =>
    intro n x
    cases n with
    | zero => exact ih 0 x
    | succ n => rw [cw, cw, ih, ih]
  | swap p q P =>
    intro n x
    match n with
    | 0 => rfl
    | 1 =>
      simp only [cw]
      omega
    | n + 2 =>
      simp only [cw, Nat.mul_add]
      rw [Nat.or_assoc, Nat.or_comm q.1, ← Nat.or_assoc, ← Nat.mul_assoc, ← Nat.mul_assoc, Nat.mul_comm p.2 q.2]
      omega
  | trans _ _ ih1 ih2 => exact fun n x => (ih1 n x).trans (ih2 n x)
theorem start_is (h n s : Nat) : (if n = 0 ∧ s = h then 1 else 0 : Int) = min (start h n s : Int) CAP := by
  unfold start
  by_cases e : n = 0 ∧ s = h
  · rw [if_pos e, if_pos e]; decide
  · rw [if_neg e, if_neg e]; decide
/-- What the capped sums say of all marks. -/
theorem capped_all {T A h0 : Nat} (hA : A < T) (hh : h0 < T) (P : List (Nat × Nat)) (hP : ∀ p, p ∈ P → ∀ b, b < T → b ||| p.1 < T) (n : Nat) : P.foldl (keyStep T) (fun n s => if n = 0 ∧ s = h0 then 1 else 0) n A = min (cw A P n h0 : Int) CAP := by
  rw [fold_is P _ (start h0) (start_is h0), ← List.foldr_reverse, ufold_all hA hh P.reverse (fun p hp => hP p (List.mem_reverse.1 hp)), cw_perm A (List.reverse_perm P)]

/-- So many sets, each one by itself. -/
def ones (N : List Nat) : List (Nat × Nat) := N.map fun k => (k, 1)
theorem ones_cons (k : Nat) (N : List Nat) : ones (k :: N) = (k, 1) :: ones N := rfl
theorem cw_ones_le (A k : Nat) (N : List Nat) (n h : Nat) : cw A (ones N) n h ≤ cw A (ones (k :: N)) n h := by
  rw [ones_cons]
  cases n with
  | zero => exact Nat.le_refl _
  | succ n => rw [cw]; omega
theorem cw_or_le (A k : Nat) (N : List Nat) (n h : Nat) : cw A (ones N) n (h ||| k) ≤ cw A (ones (k :: N)) (n + 1) h := by
  rw [ones_cons, cw]
  dsimp only
  omega
theorem repl_le (A k : Nat) (N : List Nat) (m h : Nat) {c : Nat} : ∀ {a : Nat}, c ≤ a → cw A (ones (List.replicate c k ++ N)) m h ≤ cw A (ones (List.replicate a k ++ N)) m h
  | 0, hc => by rw [show c = 0 from by omega]; exact Nat.le_refl _
  | a + 1, hc => by
    by_cases e : c = a + 1
    · rw [e]; exact Nat.le_refl _
    · refine Nat.le_trans (repl_le A k N m h (a := a) (by omega)) ?_
      rw [List.replicate_succ, List.cons_append]
      exact cw_ones_le A k _ m _
/-- Sets that come more than once, where no fewer do: each list has one of them at most. -/
theorem cw_repl {A k : Nat} {N : List Nat} : ∀ (a n h : Nat), (∀ n', n' < n → cw A (ones (List.replicate a k ++ N)) n' h = 0) → cw A (ones (List.replicate a k ++ N)) n h = cw A ((k, a) :: ones N) n h
  | 0, n, h, _ => by
    cases n with
    | zero => rfl
    | succ n => rw [cw]; simp
  | a + 1, n, h, hz => by
    rw [List.replicate_succ, List.cons_append] at hz ⊢
    obtain ⟨M, hM⟩ : ∃ M, List.replicate a k ++ N = M := ⟨_, rfl⟩
    rw [hM] at hz ⊢
    have ih := cw_repl (A := A) (k := k) (N := N) a n h
    rw [hM] at ih
    have ih := ih fun n' hn => by have := cw_ones_le A k M n' h; have := hz n' hn; omega
    cases n with
    | zero => rw [ones_cons, cw, ih, cw, cw]
    | succ n =>
      have hsec : cw A (ones M) n (h ||| k) = cw A (ones N) n (h ||| k) := by
        -- no list with one more of them
        have : ∀ (b : Nat), (∀ M', (∃ c, M' = List.replicate c k ++ N ∧ c ≤ a) → ∀ m, m < n → cw A (ones M') m (h ||| k) = 0) → b ≤ a → cw A (ones (List.replicate b k ++ N)) n (h ||| k) = cw A (ones N) n (h ||| k) := by
          intro b hzero
          induction b with
          | zero => intro _; rfl
          | succ b ihb =>
            intro hb
            rw [List.replicate_succ, List.cons_append, ones_cons]
            cases n with
            | zero => rw [cw]; exact ihb (by omega)
            | succ n =>
              rw [cw, ihb (by omega), Nat.or_assoc, Nat.or_self, hzero _ ⟨b, rfl, by omega⟩ n (by omega)]
              simp
        rw [← hM]
        refine this a (fun M' ⟨c, hc, hca⟩ m hm => ?_) (Nat.le_refl _)
        have h1 : cw A (ones M') m (h ||| k) ≤ cw A (ones M) m (h ||| k) := by
          rw [hc, ← hM]
          exact repl_le A k N m (h ||| k) hca
        have h2 := cw_or_le A k M m h
        have := hz (m + 1) (by omega)
        omega
      rw [ones_cons, cw, ih, hsec, cw, cw]
      simp only [Nat.add_mul, Nat.one_mul]
      omega
/-- All sets of P, each as often as it says. -/
def flat (P : List (Nat × Nat)) : List Nat := P.flatMap fun p => List.replicate p.2 p.1
theorem cw_cons_le (A : Nat) (N : List Nat) (n h : Nat) : ∀ (L : List Nat), cw A (ones N) n h ≤ cw A (ones (L ++ N)) n h
  | [] => Nat.le_refl _
  | k :: L => Nat.le_trans (cw_cons_le A N n h L) (cw_ones_le A k _ n h)
/-- Where no fewer rows do, the rows by themselves, and by their sets, are counted alike. -/
theorem cw_flat {A : Nat} : ∀ (P : List (Nat × Nat)), (∀ p, p ∈ P → 1 ≤ p.2) → ∀ (n h : Nat), (∀ n', n' < n → cw A (ones (flat P)) n' h = 0) → cw A (ones (flat P)) n h = cw A P n h
  | [], _, n, h, _ => rfl
  | (k, a) :: P, hp, n, h, hz => by
    have ha := hp (k, a) (by simp)
    have hf : flat ((k, a) :: P) = List.replicate a k ++ flat P := rfl
    rw [hf] at hz ⊢
    rw [cw_repl a n h hz]
    have ih := cw_flat (A := A) P (fun p hq => hp p (by simp [hq]))
    have ih1 := ih n h fun n' hn => by have := cw_cons_le A (flat P) n' h (List.replicate a k); have := hz n' hn; omega
    cases n with
    | zero => rw [cw, cw, ih1]
    | succ n =>
      have ih2 := ih n (h ||| k) fun n' hn => by
        have h1 := hz (n' + 1) (by omega)
        obtain ⟨b, rfl⟩ : ∃ b, a = b + 1 := ⟨a - 1, by dsimp only at ha; omega⟩
        rw [List.replicate_succ, List.cons_append] at h1
        have h2 := cw_or_le A k (List.replicate b k ++ flat P) n' h
        have h3 := cw_cons_le A (flat P) n' (h ||| k) (List.replicate b k)
        omega
      rw [cw, cw, ih1, ih2]
end Go.Proofs.Ytchmdkdiilaejaa

/- In how many ways best rows are chosen, in plain mathematics: the program's sums and the specification's. -/
namespace Go.Proofs.Ytchmdkdiilaejaa
open Go.RowKit Go.Shelf

/-- The union of sets. -/
def orL (l : List Nat) : Nat := l.foldr (fun a b => a ||| b) 0
theorem orL_bit (l : List Nat) (i : Nat) : (orL l).testBit i = l.any fun k => k.testBit i := by
  induction l with
  | nil => simp [orL]
  | cons k l ih =>
    show (k ||| orL l).testBit i = _
    rw [Nat.testBit_or, ih, List.any_cons]
theorem cw_pos {A : Nat} : ∀ (N : List Nat) (n h : Nat), 0 < cw A (ones N) n h ↔ ∃ l : List Nat, l.Sublist N ∧ l.length = n ∧ h ||| orL l = A
  | [], n, h => by
    show 0 < (if n = 0 ∧ h = A then 1 else 0) ↔ _
    constructor
    · intro hp
      by_cases e : n = 0 ∧ h = A
      · exact ⟨[], List.nil_sublist _, e.1.symm, by rw [show orL [] = 0 from rfl, Nat.or_zero]; exact e.2⟩
      · rw [if_neg e] at hp; omega
    · rintro ⟨l, hl, h1, h2⟩
      have := List.eq_nil_of_sublist_nil hl
      subst this
      rw [show orL [] = 0 from rfl, Nat.or_zero] at h2
      rw [if_pos ⟨h1.symm, h2⟩]
      omega
  | k :: N, 0, h => by
    rw [ones_cons, cw, cw_pos N 0 h]
    constructor
    · rintro ⟨l, h1, h2, h3⟩
      exact ⟨l, h1.trans (List.sublist_cons_self _ _), h2, h3⟩
    · rintro ⟨l, h1, h2, h3⟩
      have := List.eq_nil_of_length_eq_zero h2
      subst this
      exact ⟨[], List.nil_sublist _, rfl, h3⟩
  | k :: N, n + 1, h => by
    rw [ones_cons, cw]
    dsimp only
    rw [Nat.one_mul]
    constructor
    · intro hp
      by_cases h0 : 0 < cw A (ones N) (n + 1) h
      · obtain ⟨l, h1, h2, h3⟩ := (cw_pos N (n + 1) h).1 h0
        exact ⟨l, h1.trans (List.sublist_cons_self _ _), h2, h3⟩
      · have hp2 : 0 < cw A (ones N) n (h ||| k) := by omega
        obtain ⟨l, h1, h2, h3⟩ := (cw_pos N n (h ||| k)).1 hp2
        exact ⟨k :: l, h1.cons_cons k, by rw [List.length_cons, h2], by show h ||| (k ||| orL l) = A; rw [← Nat.or_assoc]; exact h3⟩
    · rintro ⟨l, h1, h2, h3⟩
      cases h1 with
      | cons _ h1 =>
        have := (cw_pos N (n + 1) h).2 ⟨l, h1, h2, h3⟩
        omega
      | cons_cons _ h1 =>
        rename_i l'
        have h4 : 0 < cw A (ones N) n (h ||| k) := (cw_pos N n (h ||| k)).2 ⟨l', h1, by rw [List.length_cons] at h2; omega, by rw [Nat.or_assoc]; exact h3⟩

        omega
theorem noOf_under {cs ms : List (Int × Int)} (x : Rw) (i : Nat) (h : (noOf cs ms x).testBit i = true) : i < ms.length := by
  rw [noOf_bit, Bool.and_eq_true] at h
  exact had_lt h.2
theorem or_lt2 (m : Nat) {a b : Nat} (ha : a < 2 ^ m) (hb : b < 2 ^ m) : a ||| b < 2 ^ m := Nat.or_lt_two_pow ha hb
theorem under_lt {m a : Nat} (h : ∀ i, a.testBit i = true → i < m) : a < 2 ^ m := by
  refine Nat.lt_pow_two_of_testBit a fun i hi => ?_
  rw [Bool.eq_false_iff]
  intro e
  have := h i e
  omega
theorem no_under (cs ms : List (Int × Int)) (x : Rw) : noOf cs ms x < 2 ^ ms.length := under_lt (noOf_under x)
theorem orL_all {cs ms : List (Int × Int)} (h0 : Nat) (hh : h0 < 2 ^ ms.length) (l : List Rw) : h0 ||| orL (l.map (noOf cs ms)) = 2 ^ ms.length - 1 ↔ ∀ i, i < ms.length → h0.testBit i = true ∨ ∃ x, x ∈ l ∧ (noOf cs ms x).testBit i = true := by
  constructor
  · intro h i hi
    have : (h0 ||| orL (l.map (noOf cs ms))).testBit i = true := by rw [h, all_bit]; simpa using hi
    rw [Nat.testBit_or, orL_bit, Bool.or_eq_true] at this
    rcases this with h1 | h1
    · exact .inl h1
    · rw [List.any_map, List.any_eq_true] at h1
      exact .inr h1
  · intro h
    apply Nat.eq_of_testBit_eq
    intro i
    rw [all_bit, Nat.testBit_or, orL_bit, List.any_map]
    by_cases hi : i < ms.length
    · rw [decide_eq_true hi, Bool.or_eq_true, List.any_eq_true]
      exact h i hi
    · rw [decide_eq_false hi, Bool.or_eq_false_iff, List.any_eq_false]
      refine ⟨?_, fun x _ hx => hi (noOf_under x i hx)⟩
      exact Nat.testBit_lt_two_pow (Nat.lt_of_lt_of_le hh (Nat.pow_le_pow_right (by decide) (by omega)))
theorem cov_or {cs ms : List (Int × Int)} (l : List Rw) : orL (l.map (noOf cs ms)) = 2 ^ ms.length - 1 ↔ Cov (noOf cs ms) l (2 ^ ms.length - 1) := by
  have := orL_all (cs := cs) (ms := ms) 0 (Nat.two_pow_pos _) l
  rw [Nat.zero_or] at this
  rw [this]
  constructor
  · intro h i hi
    rw [all_bit, decide_eq_true_eq] at hi
    rcases h i hi with h1 | h1
    · simp at h1
    · exact h1
  · intro h i hi
    exact .inr (h i (by rw [all_bit]; simpa using hi))
/-- How many ways there are to have all marks with so many of some rows, some marks being had. -/
def wayCount (cs ms : List (Int × Int)) (l : List Rw) (h n : Nat) : Nat := cw (2 ^ ms.length - 1) (ones (l.map (noOf cs ms))) n h
theorem way_pos {cs ms : List (Int × Int)} (l : List Rw) (n : Nat) : 0 < wayCount cs ms l 0 n ↔ ∃ r : List Rw, r.Sublist l ∧ r.length = n ∧ Cov (noOf cs ms) r (2 ^ ms.length - 1) := by
  unfold wayCount
  rw [cw_pos]
  constructor
  · rintro ⟨q, h1, h2, h3⟩
    obtain ⟨r, hr, rfl⟩ := List.sublist_map_iff.1 h1
    rw [Nat.zero_or] at h3
    exact ⟨r, hr, by simpa using h2, (cov_or r).1 h3⟩
  · rintro ⟨r, h1, h2, h3⟩
    exact ⟨r.map (noOf cs ms), h1.map _, by simpa using h2, by rw [Nat.zero_or]; exact (cov_or r).2 h3⟩
/-- The rows that fit come once each. -/
theorem fits_nodup {cs ms : List (Int × Int)} (h0 : sheetErr cs ms = 0) : (fitsOf cs ms).Nodup := by
  have hk : ∀ k, k ≤ cs.length → (fitsUpto cs ms k).Nodup ∧ ∀ x, x ∈ fitsUpto cs ms k → x.1 < k := by
    intro k
    induction k with
    | zero => intro _; exact ⟨by simp [fitsUpto], fun x hx => by simp [fitsUpto] at hx⟩
    | succ k ih =>
      intro hkc
      obtain ⟨h1, h2⟩ := ih (by omega)
      have hu : fitsUpto cs ms (k + 1) = fitsUpto cs ms k ++ rowsUpto cs ms k ms.length := by unfold fitsUpto; rw [List.range_succ, List.flatMap_append]; simp
      rw [hu, rows_pairs h0 (by omega : k < cs.length)]
      have hin : ∀ x, x ∈ (atsOf cs ms k).map (fun x => (k, x)) → x.1 = k := fun x hx => by
        obtain ⟨y, _, rfl⟩ := List.mem_map.1 hx
        rfl
      refine ⟨?_, fun x hx => ?_⟩
      · rw [List.nodup_append]
        refine ⟨h1, ?_, fun a ha b hb e => ?_⟩
        · rw [List.nodup_iff_pairwise_ne, List.pairwise_map]
          refine (nums_sorted (fitB cs ms k) 501).imp fun {a b} hab e => ?_
          have : a = b := (Prod.mk.inj e).2
          omega
        · have := h2 a ha
          have := hin b hb
          subst e
          omega
      · rcases List.mem_append.1 hx with hx | hx
        · have := h2 x hx; omega
        · have := hin x hx; omega
  exact (hk cs.length (Nat.le_refl _)).1
theorem filter_perm {r xs : List Rw} (hx : xs.Nodup) (hr : r.Nodup) (h : ∀ x, x ∈ r → x ∈ xs) : (xs.filter fun x => decide (x ∈ r)).Perm r := by
  refine (List.perm_ext_iff_of_nodup (hx.sublist List.filter_sublist) hr).2 fun x => ?_
  rw [List.mem_filter, decide_eq_true_eq]
  exact ⟨fun h => h.2, fun hh => ⟨h x hh, hh⟩⟩
/-- A least list of rows is found among the lists that are counted, and no shorter one is. -/
theorem few_way {cs ms : List (Int × Int)} {xs r : List Rw} (hx : xs.Nodup) (h : IsMin (noOf cs ms) xs (2 ^ ms.length - 1) (some r)) : 0 < wayCount cs ms xs 0 r.length ∧ ∀ n, n < r.length → wayCount cs ms xs 0 n = 0 := by
  have hnd := min_nodup h
  obtain ⟨h1, h2, h3⟩ := h
  have hp := filter_perm hx hnd h1
  refine ⟨(way_pos _ _).2 ⟨_, List.filter_sublist, hp.length_eq, fun i hi => ?_⟩, fun n hn => ?_⟩
  · obtain ⟨x, hxx, hb⟩ := h2 i hi
    exact ⟨x, hp.mem_iff.2 hxx, hb⟩
  · rcases Nat.eq_zero_or_pos (wayCount cs ms xs 0 n) with e | e
    · exact e
    · obtain ⟨q, q1, q2, q3⟩ := (way_pos _ _).1 e
      have := h3 q (fun x hq => q1.subset hq) q3
      omega
theorem none_way {cs ms : List (Int × Int)} {xs : List Rw} (h : IsMin (noOf cs ms) xs (2 ^ ms.length - 1) none) (n : Nat) : wayCount cs ms xs 0 n = 0 := by
  rcases Nat.eq_zero_or_pos (wayCount cs ms xs 0 n) with e | e
  · exact e
  · obtain ⟨q, q1, q2, q3⟩ := (way_pos _ _).1 e
    exact absurd q3 (h q fun x hq => q1.subset hq)
theorem keys_flat {ys : List Nat} {P : List (Nat × Nat)} (h : Keys ys P) : (flat P).Perm ys := by
  obtain ⟨h1, h2, h3⟩ := h
  rw [List.perm_iff_count]
  intro x
  have key : ∀ Q : List (Nat × Nat), (Q.map (·.1)).Nodup → (∀ p, p ∈ Q → p.2 = ys.count p.1) → (flat Q).count x = if x ∈ Q.map (·.1) then ys.count x else 0 := by
    intro Q
    induction Q with
    | nil => intro _ _; rfl
    | cons p Q ih =>
      intro hn hc
      rw [List.map_cons, List.nodup_cons] at hn
      have hf : flat (p :: Q) = List.replicate p.2 p.1 ++ flat Q := rfl
      rw [hf, List.count_append, ih hn.2 (fun q hq => hc q (by simp [hq])), List.count_replicate, hc p (by simp)]
      by_cases e : p.1 = x
      · subst e
        rw [if_neg hn.1, List.map_cons]
        simp
      · have e2 : ¬ x = p.1 := fun h => e h.symm
        have e3 : (p.1 == x) = false := by simpa using e
        have e4 : (x ∈ (p :: Q).map (·.1)) ↔ x ∈ Q.map (·.1) := by rw [List.map_cons, List.mem_cons]; exact ⟨fun h => h.resolve_left e2, .inr⟩
        rw [e3, if_neg (by simp), Nat.zero_add]
        by_cases e5 : x ∈ Q.map (·.1)
        · rw [if_pos e5, if_pos (e4.2 e5)]
        · rw [if_neg e5, if_neg fun h => e5 (e4.1 h)]
  rw [key P h1 h3]
  by_cases e : x ∈ P.map (·.1)
  · rw [if_pos e]
  · rw [if_neg e]
    exact (List.count_eq_zero.2 fun hx => e ((h2 x).2 hx)).symm
/-- What the program counts, whatever the order of the sets of marks. -/
theorem wayNum_is {cs ms : List (Int × Int)} (h : wholeErr cs ms = 0) {P : List (Nat × Nat)} (hK : Keys (allNos cs ms) P) : wayNum cs ms P = min (wayCount cs ms (fitsOf cs ms) 0 (bestLen cs ms) : Int) CAP := by
  obtain ⟨h0, r, ht, hl, _⟩ := best_is h
  have hmin := tab_is cs ms (two_pos ms.length)
  rw [ht] at hmin
  obtain ⟨hw1, hw2⟩ := few_way (fits_nodup h0) hmin
  have hA := two_pos ms.length
  have hlt : ∀ k, k ∈ allNos cs ms → k < 2 ^ ms.length := fun k hk => by
    unfold allNos at hk
    obtain ⟨x, _, rfl⟩ := List.mem_map.1 hk
    exact no_under cs ms x
  have hPlt : ∀ p, p ∈ P → p.1 < 2 ^ ms.length := fun p hp => hlt _ ((hK.2.1 p.1).1 (List.mem_map_of_mem hp))
  unfold wayNum waysFold
  rw [show ways0 = (fun n s => if n = 0 ∧ s = 0 then 1 else 0) from rfl, capped_all hA (Nat.two_pow_pos _) P (fun p hp b hb => or_lt2 _ hb (hPlt p hp))]
  have hpos : ∀ p, p ∈ P → 1 ≤ p.2 := fun p hp => by
    rw [hK.2.2 p hp]
    exact List.count_pos_iff.2 ((hK.2.1 p.1).1 (List.mem_map_of_mem hp))
  have hperm : (ones (flat P)).Perm (ones ((fitsOf cs ms).map (noOf cs ms))) := (keys_flat hK).map _
  have hw3 : ∀ n x, cw (2 ^ ms.length - 1) (ones (flat P)) n x = cw (2 ^ ms.length - 1) (ones ((fitsOf cs ms).map (noOf cs ms))) n x := cw_perm _ hperm
  have := cw_flat (A := 2 ^ ms.length - 1) P hpos (bestLen cs ms) 0 fun n' hn => by rw [hw3]; exact hw2 n' (by omega)
  rw [← this, hw3]
  rfl

/-- The specification's sums over rows, some marks being had. -/
def refWays (cs ms : List (Int × Int)) (l : List Rw) (h n : Nat) : Int := ((l.map fun x => (noOf cs ms x, 1)).foldl (keyStep (2 ^ ms.length)) (fun n s => if n = 0 ∧ s = h then 1 else 0)) n (2 ^ ms.length - 1)
theorem refWays_is {cs ms : List (Int × Int)} (l : List Rw) {h : Nat} (hh : h < 2 ^ ms.length) (n : Nat) : refWays cs ms l h n = min (wayCount cs ms l h n : Int) CAP := by
  unfold refWays wayCount
  have he : (l.map fun x => (noOf cs ms x, 1)) = ones (l.map (noOf cs ms)) := by unfold ones; rw [List.map_map]; rfl
  rw [he, capped_all (two_pos _) hh]
  intro p hp b hb
  unfold ones at hp
  rw [List.map_map] at hp
  obtain ⟨x, _, rfl⟩ := List.mem_map.1 hp
  exact or_lt2 _ hb (no_under cs ms x)
/-- The first number of rows, from 1 on, in which there are some ways, and how many. -/
def refFew (cs ms : List (Int × Int)) (l : List Rw) : Nat × Int :=
  match (List.range ms.length).find? fun n => decide (0 < refWays cs ms l 0 (n + 1)) with
  | some n => (n + 1, refWays cs ms l 0 (n + 1))
  | none => (0, 0)
theorem refFew_some {cs ms : List (Int × Int)} {xs r : List Rw} (hx : xs.Nodup) (h : IsMin (noOf cs ms) xs (2 ^ ms.length - 1) (some r)) (hm : 1 ≤ ms.length) : refFew cs ms xs = (r.length, min (wayCount cs ms xs 0 r.length : Int) CAP) := by
  obtain ⟨h1, h2⟩ := few_way hx h
  obtain ⟨m1, m2, m3⟩ := h
  have hr1 : 1 ≤ r.length := by
    obtain ⟨x, hx, _⟩ := m2 0 (by rw [all_bit, decide_eq_true_eq]; exact hm)
    exact List.length_pos_of_mem hx
  have hrm : r.length ≤ ms.length := by
    obtain ⟨l, l1, l2, l3⟩ := cov_few (no := noOf cs ms) (xs := xs) ms.length fun i hi => by
      obtain ⟨x, hx, hb⟩ := m2 i hi
      exact ⟨x, m1 x hx, hb⟩
    have := m3 l l1 l3
    omega
  have hc : (0 : Int) < CAP := by decide
  have hpos : ∀ n, decide (0 < refWays cs ms xs 0 n) = decide (0 < wayCount cs ms xs 0 n) := fun n => by
    rw [refWays_is _ (Nat.two_pow_pos _)]
    by_cases e : 0 < wayCount cs ms xs 0 n
    · rw [decide_eq_true e, decide_eq_true]; omega
    · rw [decide_eq_false e, decide_eq_false]; omega
  have hf : (List.range ms.length).find? (fun n => decide (0 < refWays cs ms xs 0 (n + 1))) = some (r.length - 1) := by
    rw [List.find?_eq_some_iff_append]
    refine ⟨?_, List.range (r.length - 1), (List.range (ms.length - r.length)).map (· + r.length), ?_, fun n hn => ?_⟩
    · rw [show r.length - 1 + 1 = r.length from by omega, hpos, decide_eq_true h1]
    · have : ms.length = (r.length - 1 + 1) + (ms.length - r.length) := by omega
      conv => lhs; rw [this, List.range_add, List.range_succ]
      rw [List.append_assoc]
      congr 1
      rw [List.singleton_append]
      congr 1
      refine List.map_congr_left fun n _ => ?_
      omega
    · rw [List.mem_range] at hn
      rw [hpos, decide_eq_false]
      · rfl
      · rw [h2 (n + 1) (by omega)]; omega
  unfold refFew
  rw [hf]
  dsimp only
  rw [show r.length - 1 + 1 = r.length from by omega, refWays_is _ (Nat.two_pow_pos _)]
theorem refFew_none {cs ms : List (Int × Int)} {xs : List Rw} (h : IsMin (noOf cs ms) xs (2 ^ ms.length - 1) none) : refFew cs ms xs = (0, 0) := by
  unfold refFew
  have hf : (List.range ms.length).find? (fun n => decide (0 < refWays cs ms xs 0 (n + 1))) = none := by
    rw [List.find?_eq_none]
    intro n _ hn
    rw [decide_eq_true_eq, refWays_is _ (Nat.two_pow_pos _), none_way h] at hn
    have : (0 : Int) ≤ CAP := by decide
    omega
  rw [hf]
end Go.Proofs.Ytchmdkdiilaejaa

/- The kind of a row, in plain mathematics: the program's and the specification's. -/
namespace Go.Proofs.Ytchmdkdiilaejaa
open Go.RowKit Go.Shelf

/-- Best rows, as lists of rows that fit. -/
def BestL (cs ms : List (Int × Int)) (r : List Rw) : Prop := (∀ x, x ∈ r → x ∈ fitsOf cs ms) ∧ Cov (noOf cs ms) r (2 ^ ms.length - 1) ∧ r.length = bestLen cs ms
theorem bestL_some {cs ms : List (Int × Int)} (h : wholeErr cs ms = 0) : ∃ r, BestL cs ms r := by
  obtain ⟨h0, r, h1, h2, h3, h4, h5, _⟩ := best_is h
  exact ⟨r, h4, h5, h2.symm⟩
theorem bestL_least {cs ms : List (Int × Int)} (h : wholeErr cs ms = 0) {l : List Rw} (h1 : ∀ x, x ∈ l → x ∈ fitsOf cs ms) (h2 : Cov (noOf cs ms) l (2 ^ ms.length - 1)) : bestLen cs ms ≤ l.length := by
  obtain ⟨_, r, _, hl, _, _, _, _, hm⟩ := best_is h
  rw [hl]
  exact hm l h1 h2
theorem bestL_nodup {cs ms : List (Int × Int)} (h : wholeErr cs ms = 0) {r : List Rw} (hr : BestL cs ms r) : r.Nodup :=
  min_nodup (no := noOf cs ms) (xs := fitsOf cs ms) (s := 2 ^ ms.length - 1) ⟨hr.1, hr.2.1, fun l h1 h2 => by rw [hr.2.2]; exact bestL_least h h1 h2⟩
theorem best_pos {cs ms : List (Int × Int)} (h : wholeErr cs ms = 0) : 1 ≤ bestLen cs ms := by
  obtain ⟨r, h1, h2, h3⟩ := bestL_some h
  have hm := (sheet_ok (best_is h).1).1.2.1
  obtain ⟨x, hx, _⟩ := h2 0 (by rw [all_bit, decide_eq_true_eq]; exact hm)
  have := List.length_pos_of_mem hx
  omega
theorem cov_or_not {cs ms : List (Int × Int)} {l : List Rw} {x : Rw} {s : Nat} (hx : x ∈ l) (h : Cov (noOf cs ms) (l.erase x) (butNot s (noOf cs ms x))) : Cov (noOf cs ms) l s := by
  intro i hi
  cases hb : (noOf cs ms x).testBit i with
  | true => exact ⟨x, hx, hb⟩
  | false =>
    obtain ⟨y, hy, h2⟩ := h i (by rw [butNot_bit, hi, hb]; rfl)
    exact ⟨y, List.mem_of_mem_erase hy, h2⟩
/-- A row is in some best rows just if one less does for the marks that it does not have. -/
theorem in_best {cs ms : List (Int × Int)} (h : wholeErr cs ms = 0) {x : Rw} (hx : x ∈ fitsOf cs ms) : (∃ r, BestL cs ms r ∧ x ∈ r) ↔ ¬ lenOf (tabOf cs ms (allNos cs ms) (2 ^ ms.length - 1)) < 1 + lenOf (tabOf cs ms (allNos cs ms) (butNot (2 ^ ms.length - 1) (noOf cs ms x))) := by
  have hlt : butNot (2 ^ ms.length - 1) (noOf cs ms x) < 2 ^ ms.length := Nat.lt_of_le_of_lt (butNot_le _ _) (two_pos _)
  have hm := tab_is cs ms hlt
  show _ ↔ ¬ bestLen cs ms < _
  constructor
  · rintro ⟨r, ⟨r1, r2, r3⟩, hxr⟩
    cases hq : tabOf cs ms (allNos cs ms) (butNot (2 ^ ms.length - 1) (noOf cs ms x)) with
    | none =>
      rw [hq] at hm
      exact absurd (cov_erase r2) (hm (r.erase x) fun y hy => r1 y (List.mem_of_mem_erase hy))
    | some q =>
      rw [hq] at hm
      have h1 := hm.2.2 (r.erase x) (fun y hy => r1 y (List.mem_of_mem_erase hy)) (cov_erase r2)
      rw [List.length_erase_of_mem hxr] at h1
      have := List.length_pos_of_mem hxr
      show ¬ _ < 1 + q.length
      omega
  · intro hn
    obtain ⟨r0, b1, b2, b3⟩ := bestL_some h
    cases hq : tabOf cs ms (allNos cs ms) (butNot (2 ^ ms.length - 1) (noOf cs ms x)) with
    | none =>
      rw [hq] at hm
      exact absurd (fun i hi => b2 i (by rw [butNot_bit, Bool.and_eq_true] at hi; exact hi.1)) (hm r0 b1)
    | some q =>
      rw [hq] at hm hn
      obtain ⟨q1, q2, _⟩ := hm
      have hin : ∀ y, y ∈ q ++ [x] → y ∈ fitsOf cs ms := fun y hy => by
        rcases List.mem_append.1 hy with hy | hy
        · exact q1 y hy
        · rw [List.mem_singleton.1 hy]; exact hx
      have hc := cov_snoc q2
      have := bestL_least h hin hc
      have hn : ¬ bestLen cs ms < 1 + q.length := hn
      rw [List.length_append, List.length_singleton] at this
      exact ⟨q ++ [x], ⟨hin, hc, by rw [List.length_append, List.length_singleton]; omega⟩, by simp⟩
/-- A row is left out of some best rows just if others do. -/
theorem out_best {cs ms : List (Int × Int)} (h : wholeErr cs ms = 0) {x : Rw} (hx : x ∈ fitsOf cs ms) (hi : ∃ r, BestL cs ms r ∧ x ∈ r) : (∃ r, BestL cs ms r ∧ ¬ x ∈ r) ↔ lenOf (tabOf cs ms ((allNos cs ms).erase (noOf cs ms x)) (2 ^ ms.length - 1)) = lenOf (tabOf cs ms (allNos cs ms) (2 ^ ms.length - 1)) := by
  show _ ↔ _ = bestLen cs ms
  have hnos : ∀ y, y ∈ fitsOf cs ms → noOf cs ms y ∈ allNos cs ms := fun y hy => List.mem_map_of_mem hy
  by_cases hal : ∃ y, y ∈ fitsOf cs ms ∧ y ≠ x ∧ noOf cs ms y = noOf cs ms x
  · obtain ⟨y, hy, hyx, hno⟩ := hal
    have hmem : noOf cs ms x ∈ (allNos cs ms).erase (noOf cs ms x) := by
      have hc : 2 ≤ (allNos cs ms).count (noOf cs ms x) := by
        have hp := filter_perm (fits_nodup (best_is h).1) (r := [x, y]) (by simp [Ne.symm hyx]) (fun z hz => by
          rcases List.mem_cons.1 hz with rfl | hz
          · exact hx
          · rw [List.mem_singleton.1 hz]; exact hy)
        have h1 := ((List.filter_sublist (l := fitsOf cs ms) (p := fun z => decide (z ∈ [x, y]))).map (noOf cs ms)).count_le (noOf cs ms x)
        have h2 := (hp.map (noOf cs ms)).count_eq (noOf cs ms x)
        rw [h2] at h1
        unfold allNos
        simpa [hno] using h1
      have : 0 < ((allNos cs ms).erase (noOf cs ms x)).count (noOf cs ms x) := by
        rw [List.count_erase_self]
        omega
      exact List.count_pos_iff.1 this
    have hleft : leftOf cs ms ((allNos cs ms).erase (noOf cs ms x)) (fitsOf cs ms) = fitsOf cs ms := by
      unfold leftOf
      rw [List.filter_eq_self]
      intro z hz
      rw [decide_eq_true_eq]
      by_cases e : noOf cs ms z = noOf cs ms x
      · rw [e]; exact hmem
      · exact (List.mem_erase_of_ne e).2 (hnos z hz)
    have heq : tabOf cs ms ((allNos cs ms).erase (noOf cs ms x)) (2 ^ ms.length - 1) = tabOf cs ms (allNos cs ms) (2 ^ ms.length - 1) := by
      unfold tabOf
      rw [hleft, left_all]
    rw [heq]
    refine ⟨fun _ => rfl, fun _ => ?_⟩
    obtain ⟨r, hr, hxr⟩ := hi
    have hnd := bestL_nodup h hr
    obtain ⟨r1, r2, r3⟩ := hr
    refine ⟨r.erase x ++ [y], ⟨fun z hz => ?_, fun i hib => ?_, ?_⟩, fun hm => ?_⟩
    · rcases List.mem_append.1 hz with hz | hz
      · exact r1 z (List.mem_of_mem_erase hz)
      · rw [List.mem_singleton.1 hz]; exact hy
    · obtain ⟨z, hz, hb⟩ := r2 i hib
      by_cases e : z = x
      · subst e
        exact ⟨y, by simp, by rw [hno]; exact hb⟩
      · exact ⟨z, List.mem_append_left _ ((List.mem_erase_of_ne e).2 hz), hb⟩
    · rw [List.length_append, List.length_erase_of_mem hxr, List.length_singleton]
      have := List.length_pos_of_mem hxr
      omega
    · rcases List.mem_append.1 hm with hm | hm
      · exact ((hnd.mem_erase_iff).1 hm).1 rfl
      · exact hyx (List.mem_singleton.1 hm).symm
  · -- x alone has these marks
    have hl : ∀ z, z ∈ leftOf cs ms ((allNos cs ms).erase (noOf cs ms x)) (fitsOf cs ms) ↔ z ∈ fitsOf cs ms ∧ z ≠ x := by
      intro z
      unfold leftOf
      rw [List.mem_filter, decide_eq_true_eq]
      constructor
      · rintro ⟨h1, h2⟩
        refine ⟨h1, fun e => ?_⟩
        subst e
        -- the number of z would come twice
        have hcnt : ((allNos cs ms).erase (noOf cs ms z)).count (noOf cs ms z) = 0 := by
          rw [List.count_erase_self]
          have : (allNos cs ms).count (noOf cs ms z) ≤ 1 := by
            unfold allNos
            rw [List.count_eq_countP, List.countP_map]
            have hle : (fitsOf cs ms).countP ((fun a => a == noOf cs ms z) ∘ noOf cs ms) ≤ (fitsOf cs ms).count z := by
              rw [List.count_eq_countP]
              refine List.countP_mono_left fun y hy he => ?_
              simp only [Function.comp, beq_iff_eq] at he ⊢
              by_cases e : y = z
              · exact e
              · exact absurd ⟨y, hy, e, he⟩ hal
            have := List.nodup_iff_count.1 (fits_nodup (best_is h).1) z
            omega
          omega
        exact List.count_eq_zero.1 hcnt h2
      · rintro ⟨h1, h2⟩
        refine ⟨h1, (List.mem_erase_of_ne fun e => ?_).2 (hnos z h1)⟩
        exact hal ⟨z, h1, h2, e⟩
    have hm := tab_min (noOf cs ms) (leftOf cs ms ((allNos cs ms).erase (noOf cs ms x)) (fitsOf cs ms)) (two_pos ms.length)
    rw [show (tabTo (noOf cs ms) (leftOf cs ms ((allNos cs ms).erase (noOf cs ms x)) (fitsOf cs ms)) (2 ^ ms.length)).getD (2 ^ ms.length - 1) none = tabOf cs ms ((allNos cs ms).erase (noOf cs ms x)) (2 ^ ms.length - 1) from rfl] at hm
    cases hq : tabOf cs ms ((allNos cs ms).erase (noOf cs ms x)) (2 ^ ms.length - 1) with
    | none =>
      rw [hq] at hm
      constructor
      · rintro ⟨r, ⟨r1, r2, _⟩, hr⟩
        exact absurd r2 (hm r fun z hz => (hl z).2 ⟨r1 z hz, fun e => hr (e ▸ hz)⟩)
      · intro e
        have := best_pos h
        have e : 0 = bestLen cs ms := e
        omega
    | some q =>
      rw [hq] at hm
      obtain ⟨q1, q2, q3⟩ := hm
      have hge := bestL_least h (fun z hz => ((hl z).1 (q1 z hz)).1) q2
      show _ ↔ q.length = bestLen cs ms
      constructor
      · rintro ⟨r, ⟨r1, r2, r3⟩, hr⟩
        have := q3 r (fun z hz => (hl z).2 ⟨r1 z hz, fun e => hr (e ▸ hz)⟩) r2
        omega
      · intro e
        exact ⟨q, ⟨fun z hz => ((hl z).1 (q1 z hz)).1, q2, e⟩, fun hx => ((hl x).1 (q1 x hx)).2 rfl⟩
theorem kind_cases {cs ms : List (Int × Int)} (h : wholeErr cs ms = 0) {x : Rw} (hx : x ∈ fitsOf cs ms) :
    (kindOf cs ms (allNos cs ms) x = 0 ∧ ∀ r, BestL cs ms r → ¬ x ∈ r) ∨ (kindOf cs ms (allNos cs ms) x = 1 ∧ (∃ r, BestL cs ms r ∧ x ∈ r) ∧ ∃ r, BestL cs ms r ∧ ¬ x ∈ r) ∨ (kindOf cs ms (allNos cs ms) x = 2 ∧ ∀ r, BestL cs ms r → x ∈ r) := by
  unfold kindOf
  by_cases h1 : ∃ r, BestL cs ms r ∧ x ∈ r
  · rw [if_neg ((in_best h hx).1 h1)]
    by_cases h2 : ∃ r, BestL cs ms r ∧ ¬ x ∈ r
    · rw [if_pos ((out_best h hx h1).1 h2)]
      exact .inr (.inl ⟨rfl, h1, h2⟩)
    · rw [if_neg fun e => h2 ((out_best h hx h1).2 e)]
      exact .inr (.inr ⟨rfl, fun r hr => Classical.byContradiction fun hn => h2 ⟨r, hr, hn⟩⟩)
  · rw [if_pos (Classical.byContradiction fun hn => h1 ((in_best h hx).2 hn))]
    exact .inl ⟨rfl, fun r hr hxr => h1 ⟨r, hr, hxr⟩⟩
/-- What the specification says of the kind of a row that fits. -/
def refKind (cs ms : List (Int × Int)) (x : Rw) : Int :=
  let rest := (fitsOf cs ms).filter fun y => decide (y ≠ x)
  if (refFew cs ms rest).1 ≠ (refFew cs ms (fitsOf cs ms)).1 then 2
  else if 0 < refWays cs ms rest (noOf cs ms x) ((refFew cs ms (fitsOf cs ms)).1 - 1) then 1 else 0
theorem refFew_fits {cs ms : List (Int × Int)} (h : wholeErr cs ms = 0) : refFew cs ms (fitsOf cs ms) = (bestLen cs ms, min (wayCount cs ms (fitsOf cs ms) 0 (bestLen cs ms) : Int) CAP) := by
  obtain ⟨h0, r, ht, hl, _⟩ := best_is h
  have hmin := tab_is cs ms (two_pos ms.length)
  rw [ht] at hmin
  rw [refFew_some (fits_nodup h0) hmin (sheet_ok h0).1.2.1, hl]
theorem refKind_is {cs ms : List (Int × Int)} (h : wholeErr cs ms = 0) {x : Rw} (hx : x ∈ fitsOf cs ms) : refKind cs ms x = kindOf cs ms (allNos cs ms) x := by
  have h0 := (best_is h).1
  obtain ⟨rest, hrest⟩ : ∃ rest, (fitsOf cs ms).filter (fun y => decide (y ≠ x)) = rest := ⟨_, rfl⟩
  have hmem : ∀ z, z ∈ rest ↔ z ∈ fitsOf cs ms ∧ z ≠ x := fun z => by rw [← hrest, List.mem_filter, decide_eq_true_eq]
  have hnd : rest.Nodup := by rw [← hrest]; exact (fits_nodup h0).sublist List.filter_sublist
  have hpos := best_pos h
  -- others do just if the row is left out of some best rows
  have hout : (refFew cs ms rest).1 = bestLen cs ms ↔ ∃ r, BestL cs ms r ∧ ¬ x ∈ r := by
    have hm := tab_min (noOf cs ms) rest (two_pos ms.length)
    cases hq : (tabTo (noOf cs ms) rest (2 ^ ms.length)).getD (2 ^ ms.length - 1) none with
    | none =>
      rw [hq] at hm
      rw [refFew_none hm]
      constructor
      · intro e
        have e : 0 = bestLen cs ms := e
        omega
      · rintro ⟨r, ⟨r1, r2, _⟩, hr⟩
        exact absurd r2 (hm r fun z hz => (hmem z).2 ⟨r1 z hz, fun e => hr (e ▸ hz)⟩)
    | some q =>
      rw [hq] at hm
      rw [refFew_some hnd hm (sheet_ok h0).1.2.1]
      obtain ⟨q1, q2, q3⟩ := hm
      have hge := bestL_least h (fun z hz => ((hmem z).1 (q1 z hz)).1) q2
      constructor
      · intro e
        exact ⟨q, ⟨fun z hz => ((hmem z).1 (q1 z hz)).1, q2, e⟩, fun hx => ((hmem x).1 (q1 x hx)).2 rfl⟩
      · rintro ⟨r, ⟨r1, r2, r3⟩, hr⟩
        have := q3 r (fun z hz => (hmem z).2 ⟨r1 z hz, fun e => hr (e ▸ hz)⟩) r2
        show q.length = _
        omega
  have hin : 0 < refWays cs ms rest (noOf cs ms x) (bestLen cs ms - 1) ↔ ∃ r, BestL cs ms r ∧ x ∈ r := by
    rw [refWays_is _ (no_under cs ms x)]
    have hc : (0 : Int) < CAP := by decide
    have : 0 < min (wayCount cs ms rest (noOf cs ms x) (bestLen cs ms - 1) : Int) CAP ↔ 0 < wayCount cs ms rest (noOf cs ms x) (bestLen cs ms - 1) := by omega
    rw [this]
    unfold wayCount
    rw [cw_pos]
    constructor
    · rintro ⟨l, l1, l2, l3⟩
      obtain ⟨q, hq, rfl⟩ := List.sublist_map_iff.1 l1
      rw [List.length_map] at l2
      rw [orL_all _ (no_under cs ms x)] at l3
      refine ⟨x :: q, ⟨fun z hz => ?_, fun i hi => ?_, by rw [List.length_cons]; omega⟩, by simp⟩
      · rcases List.mem_cons.1 hz with rfl | hz
        · exact hx
        · exact ((hmem z).1 (hq.subset hz)).1
      · rw [all_bit, decide_eq_true_eq] at hi
        rcases l3 i hi with h1 | ⟨y, hy, h1⟩
        · exact ⟨x, by simp, h1⟩
        · exact ⟨y, by simp [hy], h1⟩
    · rintro ⟨r, hr, hxr⟩
      have hrn := bestL_nodup h hr
      obtain ⟨r1, r2, r3⟩ := hr
      have hp := filter_perm hnd (hrn.erase x) fun z hz => (hmem z).2 ⟨r1 z (List.mem_of_mem_erase hz), fun e => by subst e; exact ((hrn.mem_erase_iff).1 hz).1 rfl⟩
      refine ⟨(rest.filter fun z => decide (z ∈ r.erase x)).map (noOf cs ms), List.filter_sublist.map _, ?_, ?_⟩
      · rw [List.length_map, hp.length_eq, List.length_erase_of_mem hxr, r3]
      · rw [orL_all _ (no_under cs ms x)]
        intro i hi
        obtain ⟨z, hz, hb⟩ := r2 i (by rw [all_bit]; simpa using hi)
        by_cases e : z = x
        · subst e; exact .inl hb
        · exact .inr ⟨z, hp.mem_iff.2 ((List.mem_erase_of_ne e).2 hz), hb⟩
  unfold refKind
  dsimp only
  rw [hrest, refFew_fits h]
  dsimp only
  rcases kind_cases h hx with ⟨k, k1⟩ | ⟨k, k1, k2⟩ | ⟨k, k1⟩
  · rw [k]
    obtain ⟨r, hr⟩ := bestL_some h
    rw [if_neg (fun hn => hn (hout.2 ⟨r, hr, k1 r hr⟩)), if_neg fun hh => by obtain ⟨r, hr, hxr⟩ := hin.1 hh; exact k1 r hr hxr]
  · rw [k, if_neg (fun hn => hn (hout.2 k2)), if_pos (hin.2 k1)]
  · rw [k, if_pos fun e => by obtain ⟨r, hr, hn⟩ := hout.1 e; exact hn (k1 r hr)]
end Go.Proofs.Ytchmdkdiilaejaa
