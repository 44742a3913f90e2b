/- Texts of the package drop, joined: FirstAns, First2, Mat. -/
import Derived.Test.YtckndnaohggmhaaC8
import Derived.Great.BuildSlice
/- First's closures, and First. -/
namespace Go.Proofs.Ytckndnaohggmhaa
open Go.RowKit Go.Shelf

theorem owns_below {w w' : World} {base : Nat} {e : TypeId} {size n : Nat} {v : Value} {xs : List Value} (h : w.ownsRow base e size v n xs) (hb : Below w.heap.size w w') : w'.ownsRow base e size v n xs := by
  refine ⟨h.1, h.2.imp id ?_⟩
  rintro ⟨g, cap, cur, hv, hg, hr, h1⟩
  exact ⟨g, cap, cur, hv, hg, (hb.block g (Array.getElem?_eq_some_iff.1 hr).1).trans hr, h1⟩

theorem flat_at {α : Type} (enc : α → List Value) (k : Nat) (hk : ∀ x, (enc x).length = k) : ∀ (xs : List α) (j : Nat) (x : α), xs[j]? = some x → ∀ i v, (enc x)[i]? = some v → (xs.flatMap enc)[j * k + i]? = some v := by
  intro xs
  induction xs with
  | nil => intro j x h; simp at h
  | cons y ys ih =>
    intro j x h i v hv
    rw [List.flatMap_cons]
    cases j with
    | zero =>
      simp at h; subst h
      have hi : i < (enc y).length := (List.getElem?_eq_some_iff.1 hv).1
      rw [Nat.zero_mul, Nat.zero_add, List.getElem?_append_left hi]
      exact hv
    | succ j =>
      rw [List.getElem?_cons_succ] at h
      rw [List.getElem?_append_right (by rw [hk, Nat.succ_mul]; omega), hk, show (j + 1) * k + i - k = j * k + i from by rw [Nat.succ_mul]; omega]
      exact ih j x h i v hv

theorem held_of_own {α : Type} {w : World} {base : Nat} {e : TypeId} {k n : Nat} {v : Value} (enc : α → List Value) (hk : ∀ x, (enc x).length = k) (xs : List α) (hn : n = xs.length) (h : w.ownsRow base e k v n (xs.flatMap enc)) :
    ∃ A c, v = .slice A n c ∧ n ≤ c ∧ Held w w.heap.size k enc A xs := by
  rcases h.2 with ⟨rfl, rfl⟩ | ⟨g, cap, cur, rfl, hg, hr, hnc, hcm, hcs, ht⟩
  · exact ⟨none, 0, rfl, Nat.le_refl _, .inl (List.eq_nil_of_length_eq_zero hn.symm)⟩
  · refine ⟨some ⟨g, 0, none⟩, cap, rfl, hnc, .inr ⟨g, 0, rfl, (Array.getElem?_eq_some_iff.1 hr).1, fun j x hx i u hu => ?_⟩⟩
    have h1 := flat_at enc k hk xs j x hx i u hu
    rw [← ht, List.getElem?_take] at h1
    rw [cell_of_row _ _ _ _ _ _ hr, Nat.zero_add]
    split at h1
    · simpa using h1
    · simp at h1

section
variable {w : World} {B g : Nat} {Wd : Int} {A : Option Addr} {n c : Nat} {A' : Option Addr} {n' c' : Nat} {ss : List (Int × Int)} {ds : List (Int × Int × Int)} {sz : Nat → Int × Int}

set_option maxHeartbeats 1000000 in
theorem met78 (one two : Int) (P Q : Nat) (xs : List (Nat → Int × Int)) (w : World) (hb : IsBath w w.heap.size A n c A' n' c' ss ds) (hok : bathErr Wd ss ds = 0) (hx : ∀ z ∈ xs, ∀ i, (0 ≤ (z i).1 ∧ (z i).1 ≤ 400000) ∧ 0 ≤ (z i).2 ∧ (z i).2 ≤ 400000)
    (h1 : -2 ≤ one) (h1' : one < n) (h2 : -2 ≤ two) (h2' : two < n) (hne : one ≠ two) (hP : P < w.heap.size) (hQ : Q < w.heap.size) (hp : w.cell? ⟨P, 0, none⟩ = some (.int .i64 one)) (hq : w.cell? ⟨Q, 0, none⟩ = some (.int .i64 two)) :
    PredOn 78 #[.pointer (some ⟨P, 0, none⟩), .pointer (some ⟨Q, 0, none⟩)] (valZ Wd A n c A' n' c') (fun z => meetB Wd ss (fun i => (z i).2) one two) xs w := fun W z hz hW => by
  have hp' := (hW.cell (p := ⟨P, 0, none⟩) hP).trans hp
  have hq' := (hW.cell (p := ⟨Q, 0, none⟩) hQ).trans hq
  have hPW : P < W.heap.size := Nat.lt_of_lt_of_le hP hW.size
  have hQW : Q < W.heap.size := Nat.lt_of_lt_of_le hQ hW.size
  have hzb := hx z hz
  unfold valZ
  obtain ⟨cs, hcs⟩ : ∃ cs, sizedCells Wd A n c A' n' c' z = cs := ⟨_, rfl⟩
  have zc : cs.size = 23 := by rw [← hcs]; rfl
  have hB : Below W.heap.size W (W.alloc (.cells cs 84)) := (Below.refl _ W).alloc (Nat.le_refl _) _
  have hs : IsSized (W.alloc (.cells cs 84)) (W.alloc (.cells cs 84)).heap.size W.heap.size Wd A n c A' n' c' ss ds z :=
    ⟨by simp, by rw [hcs]; exact row_last _ _ _ rfl, (hb.kept (hW.trans (hB.mono hW.size)) (Nat.le_refl _)).wider (Nat.le_trans hW.size hB.size), hok, fun i => by have := hzb i; omega, fun i => by have := hzb i; omega⟩
  have hcon := meet_any 80 enters80 _ (sizeFn_most hs) hs.hi one two h1 h1' h2 h2' hne hs
  show Calls Try.prog 78 #[.agg (sizedCells Wd A n c A' n' c' z), .pointer (some ⟨P, 0, none⟩), .pointer (some ⟨Q, 0, none⟩)] W fun e w' => e = .returned (.bool (meetB Wd ss (fun i => (z i).2) one two)) ∧ Below W.heap.size W w'
  rw [hcs]
  generalize meetB Wd ss (fun i => (z i).2) one two = r at hcon ⊢
  clear hs hzb hx hz hcs hp hq
  go_enter Try.func78, Try.ntmps78
  go_wp2_with (go_at_call 79; refine hcon.mono ?_; rintro e w2 ⟨rfl, hb2⟩)
  go_ret
  exact ⟨rfl, bstep hB hB.size hb2⟩

theorem enters78 : ∀ args w, (callFunc 78 args).run Try.prog w = .ok (.enter 78 args) w := enters_of Try.func78 (by kernel_rfl) rfl

set_option maxHeartbeats 1000000 in
theorem met81 (one two : Int) (P Q : Nat) (xs : List (Nat → Int × Int)) (w : World) (hb : IsBath w w.heap.size A n c A' n' c' ss ds) (hok : bathErr Wd ss ds = 0) (hx : ∀ z ∈ xs, ∀ i, (0 ≤ (z i).1 ∧ (z i).1 ≤ 400000) ∧ 0 ≤ (z i).2 ∧ (z i).2 ≤ 400000)
    (h1 : -2 ≤ one) (h1' : one < n) (h2 : -2 ≤ two) (h2' : two < n) (hne : one ≠ two) (hP : P < w.heap.size) (hQ : Q < w.heap.size) (hp : w.cell? ⟨P, 0, none⟩ = some (.int .i64 one)) (hq : w.cell? ⟨Q, 0, none⟩ = some (.int .i64 two)) :
    PredOn 81 #[.pointer (some ⟨P, 0, none⟩), .pointer (some ⟨Q, 0, none⟩)] (valZ Wd A n c A' n' c') (fun z => meetB Wd ss (fun i => (z i).1) one two) xs w := fun W z hz hW => by
  have hp' := (hW.cell (p := ⟨P, 0, none⟩) hP).trans hp
  have hq' := (hW.cell (p := ⟨Q, 0, none⟩) hQ).trans hq
  have hPW : P < W.heap.size := Nat.lt_of_lt_of_le hP hW.size
  have hQW : Q < W.heap.size := Nat.lt_of_lt_of_le hQ hW.size
  have hzb := hx z hz
  unfold valZ
  obtain ⟨cs, hcs⟩ : ∃ cs, sizedCells Wd A n c A' n' c' z = cs := ⟨_, rfl⟩
  have zc : cs.size = 23 := by rw [← hcs]; rfl
  have hB : Below W.heap.size W (W.alloc (.cells cs 84)) := (Below.refl _ W).alloc (Nat.le_refl _) _
  have hs : IsSized (W.alloc (.cells cs 84)) (W.alloc (.cells cs 84)).heap.size W.heap.size Wd A n c A' n' c' ss ds z :=
    ⟨by simp, by rw [hcs]; exact row_last _ _ _ rfl, (hb.kept (hW.trans (hB.mono hW.size)) (Nat.le_refl _)).wider (Nat.le_trans hW.size hB.size), hok, fun i => by have := hzb i; omega, fun i => by have := hzb i; omega⟩
  have hcon := meet_any 82 enters82 _ (sizeFn_least hs) hs.lo one two h1 h1' h2 h2' hne hs
  show Calls Try.prog 81 #[.agg (sizedCells Wd A n c A' n' c' z), .pointer (some ⟨P, 0, none⟩), .pointer (some ⟨Q, 0, none⟩)] W fun e w' => e = .returned (.bool (meetB Wd ss (fun i => (z i).1) one two)) ∧ Below W.heap.size W w'
  rw [hcs]
  generalize meetB Wd ss (fun i => (z i).1) one two = r at hcon ⊢
  clear hs hzb hx hz hcs hp hq
  go_enter Try.func81, Try.ntmps81
  go_wp2_with (go_at_call 79; refine hcon.mono ?_; rintro e w2 ⟨rfl, hb2⟩)
  go_ret
  exact ⟨rfl, bstep hB hB.size hb2⟩

theorem enters81 : ∀ args w, (callFunc 81 args).run Try.prog w = .ok (.enter 81 args) w := enters_of Try.func81 (by kernel_rfl) rfl

end
end Go.Proofs.Ytckndnaohggmhaa

/- First: after how many drops two places touch. -/
namespace Go.Proofs.Ytckndnaohggmhaa
open Go.RowKit Go.Shelf

theorem built84 (Wd : Int) (A : Option Addr) (n c : Nat) (A' : Option Addr) (n' c' : Nat) (sz : Nat → Int × Int) : Try.prog.builtSlice 84 1 [(0, .agg (sizedCells Wd A n c A' n' c' sz))] = some (sizedCells Wd A n c A' n' c' sz) := by kernel_rfl

theorem wpList_build99 {ops : Array Oper} {rest : List Oper} {o : Oper} {a : Act} {w : World} {Q : Exit → Act → World → Prop} (x : Operand) (hg : o.guard = none) (ho : o.op = .buildSlice 99 1 #[(0, x)]) (Wd : Int) (A : Option Addr) (n c : Nat) (A' : Option Addr) (n' c' : Nat) (sz : Nat → Int × Int) (cs : Array Value)
    (hcs : sizedCells Wd A n c A' n' c' sz = cs) (hx : a.eval x = .agg cs) (h : wpList Try.prog ops Q rest (a.put o.dst (.slice (some ⟨w.heap.size, 0, none⟩) 1 1)) (w.alloc (.cells cs 84))) : wpList Try.prog ops Q (o :: rest) a w := by
  refine Great.wpList_buildSliceTo hg 99 84 1 #[(0, x)] ho _ rfl _ rfl Try.underlying99 cs ?_ h
  subst hcs
  simpa [hx] using built84 Wd A n c A' n' c' sz

/-- The sizes after each drop, the first one alone, the first two, and so on. -/
def prefixes (ds : List (Int × Int × Int)) (k : Nat) : List (Nat → Int × Int) := (List.range k).map fun j => sizes (ds.take (j + 1))
theorem prefixes_succ (ds : List (Int × Int × Int)) (k : Nat) : prefixes ds (k + 1) = prefixes ds k ++ [sizes (ds.take (k + 1))] := by simp [prefixes, List.range_succ]
theorem prefixes_length (ds : List (Int × Int × Int)) (k : Nat) : (prefixes ds k).length = k := by simp [prefixes]

/-- What First answers. -/
def firstAns (Wd : Int) (ss : List (Int × Int)) (ds : List (Int × Int × Int)) (one two : Int) : (Int × Int) × Int :=
  if forErr Wd ss ds one two = 0 then
    if kindOf Wd ss (sizes ds) one two = 0 then ((0, 0), 17)
    else ((((prefixes ds ds.length).findIdx fun z => meetB Wd ss (fun i => (z i).2) one two : Nat) + 1, ((prefixes ds ds.length).findIdx fun z => meetB Wd ss (fun i => (z i).1) one two : Nat) + 1), 0)
  else ((0, 0), forErr Wd ss ds one two)

section
variable {w : World} {B g : Nat} {Wd : Int} {A : Option Addr} {n c : Nat} {A' : Option Addr} {n' c' : Nat} {ss : List (Int × Int)} {ds : List (Int × Int × Int)} {sz : Nat → Int × Int}

theorem info84 : (Try.prog.info? 84).map (fun i => (i.zero, i.size, i.bytes)) = some (some (.agg Z84), 23, 216) := by kernel_rfl

set_option maxHeartbeats 1000000 in
theorem first_err (one two : Int) (hb : IsBath w w.heap.size A n c A' n' c' ss ds) (he : forErr Wd ss ds one two ≠ 0) :
    Calls Try.prog 25 #[.agg #[.int .i64 Wd, .slice A n c, .slice A' n' c'], .int .i64 one, .int .i64 two] w fun e w' => e = .returned (.tuple #[.agg #[.int .i64 0, .int .i64 0], .int .i64 (forErr Wd ss ds one two)]) ∧ Below w.heap.size w w' := by
  have hp0 : Below w.heap.size w ((((w.alloc (.cells #[.int .i64 Wd, .slice A n c, .slice A' n' c'] 25)).alloc (.cells #[.int .i64 one] 3)).alloc (.cells #[.int .i64 two] 3)).alloc (.cells #[.int .i64 0, .int .i64 0] 29)) :=
    ((((Below.refl _ w).alloc (Nat.le_refl _) _).alloc (by simp) _).alloc (by simp; omega) _).alloc (by simp; omega) _
  have c1 := openedFor_err one two ((hb.kept hp0 (Nat.le_refl _)).wider hp0.size) he
  generalize forErr Wd ss ds one two = r at he c1 ⊢
  have hne : (r == 0) = false := by simpa using he
  have hne2 : (r != 0) = true := by simpa using he
  have zz := Z84_size
  have f3 : ((((w.alloc (.cells #[.int .i64 Wd, .slice A n c, .slice A' n' c'] 25)).alloc (.cells #[.int .i64 one] 3)).alloc (.cells #[.int .i64 two] 3)).alloc (.cells #[.int .i64 0, .int .i64 0] 29)).heap[w.heap.size + 1 + 1 + 1]? = some (.cells #[.int .i64 0, .int .i64 0] 29 (0, 0)) := row_last _ _ _ (by simp)
  have F3 := Lib.hid f3
  clear f3
  go_enter Try.func25, Try.ntmps25
  go_wp2_with fail
  refine c1.mono ?_
  rintro e w1 ⟨rfl, hb1⟩
  have hB : Below w.heap.size w w1 := bstep hp0 hp0.size hb1
  have hst := store_last w1 w1.heap.size rfl Z84 Z84 Z84_size Z84_size Z84_one
  have H3 : Hid ((w1.alloc (.cells Z84 84)).heap[w.heap.size + 1 + 1 + 1]? = some (.cells #[.int .i64 0, .int .i64 0] 29 (0, 0))) := Lib.hid (row_alloc _ _ _ _ ((hb1.block _ (by simp)).trans F3.out))
  clear hb1 F3
  go_wp2_with (first | refine wpList_alloc84 rfl rfl ?_ | refine wpList_store29 (.tmp 6) (.tmp 23) rfl rfl (w.heap.size + 1 + 1 + 1) rfl 0 0 0 0 rfl H3.out ?_)
  refine bodyPost_ret (v := .tuple #[.agg #[.int .i64 0, .int .i64 0], .int .i64 r]) (results_rng_tmp rfl _ _ (w.heap.size + 1 + 1 + 1) 0 0 _ rfl rfl (row_setRow _ _ _ _ _ _ H3.out)) rfl ⟨rfl, below_setRow (hB.alloc hB.size _) (by omega) _⟩

set_option maxHeartbeats 1000000 in
theorem first_ok (one two : Int) (hb : IsBath w w.heap.size A n c A' n' c' ss ds) (he : forErr Wd ss ds one two = 0) :
    Calls Try.prog 25 #[.agg #[.int .i64 Wd, .slice A n c, .slice A' n' c'], .int .i64 one, .int .i64 two] w fun e w' => e = .returned (.tuple #[.agg #[.int .i64 (firstAns Wd ss ds one two).1.1, .int .i64 (firstAns Wd ss ds one two).1.2], .int .i64 (firstAns Wd ss ds one two).2]) ∧ Below w.heap.size w w' := by
  have hp0 : Below w.heap.size w ((((w.alloc (.cells #[.int .i64 Wd, .slice A n c, .slice A' n' c'] 25)).alloc (.cells #[.int .i64 one] 3)).alloc (.cells #[.int .i64 two] 3)).alloc (.cells #[.int .i64 0, .int .i64 0] 29)) :=
    ((((Below.refl _ w).alloc (Nat.le_refl _) _).alloc (by simp) _).alloc (by simp; omega) _).alloc (by simp; omega) _
  have c1 := openedFor_fine one two ((hb.kept hp0 (Nat.le_refl _)).wider hp0.size) he
  obtain ⟨h0, h1, h2, h3⟩ := forErr_ok he
  rw [← hb.nss] at h2 h3
  have hkd : ∀ w1, Below w.heap.size w w1 → _ := fun w1 hB => kind_any one two h2.1 h2.2 h3.1 h3.2 h1 (isSized_new hb h0 hB)
  obtain ⟨cs, hcs⟩ : ∃ cs, sizedCells Wd A n c A' n' c' (sizes ds) = cs := ⟨_, rfl⟩
  have zc : cs.size = 23 := by rw [← hcs]; rfl
  have oc : cs.all (·.oneCell') = true := by rw [← hcs]; exact sizedCells_one _ _ _ _ _ _ _ _
  rw [hcs] at c1 hkd
  have OC := Lib.hid oc
  clear hcs oc
  have f3 : ((((w.alloc (.cells #[.int .i64 Wd, .slice A n c, .slice A' n' c'] 25)).alloc (.cells #[.int .i64 one] 3)).alloc (.cells #[.int .i64 two] 3)).alloc (.cells #[.int .i64 0, .int .i64 0] 29)).heap[w.heap.size + 1 + 1 + 1]? = some (.cells #[.int .i64 0, .int .i64 0] 29 (0, 0)) := row_last _ _ _ (by simp)
  have f0 : ((((w.alloc (.cells #[.int .i64 Wd, .slice A n c, .slice A' n' c'] 25)).alloc (.cells #[.int .i64 one] 3)).alloc (.cells #[.int .i64 two] 3)).alloc (.cells #[.int .i64 0, .int .i64 0] 29)).heap[w.heap.size]? = some (.cells #[.int .i64 Wd, .slice A n c, .slice A' n' c'] 25 (0, 0)) := row_alloc _ _ _ _ (row_alloc _ _ _ _ (row_alloc _ _ _ _ (row_last _ _ _ rfl)))
  have f1 : ((((w.alloc (.cells #[.int .i64 Wd, .slice A n c, .slice A' n' c'] 25)).alloc (.cells #[.int .i64 one] 3)).alloc (.cells #[.int .i64 two] 3)).alloc (.cells #[.int .i64 0, .int .i64 0] 29)).heap[w.heap.size + 1]? = some (.cells #[.int .i64 one] 3 (0, 0)) := row_alloc _ _ _ _ (row_alloc _ _ _ _ (row_last _ _ _ (by simp)))
  have f2 : ((((w.alloc (.cells #[.int .i64 Wd, .slice A n c, .slice A' n' c'] 25)).alloc (.cells #[.int .i64 one] 3)).alloc (.cells #[.int .i64 two] 3)).alloc (.cells #[.int .i64 0, .int .i64 0] 29)).heap[w.heap.size + 1 + 1]? = some (.cells #[.int .i64 two] 3 (0, 0)) := row_alloc _ _ _ _ (row_last _ _ _ (by simp))
  have F0 := Lib.hid f0
  have F1 := Lib.hid f1
  have F2 := Lib.hid f2
  have F3 := Lib.hid f3
  clear f0 f1 f2 f3
  by_cases hk : kindOf Wd ss (sizes ds) one two = 0
  · have ha : firstAns Wd ss ds one two = ((0, 0), 17) := by unfold firstAns; rw [if_pos he, if_pos hk]
    rw [ha]
    rw [hk] at hkd
    clear ha hk
    go_enter Try.func25, Try.ntmps25
    go_wp2_with fail
    refine c1.mono ?_
    rintro e w1 ⟨rfl, hb1⟩
    have hB : Below w.heap.size w w1 := bstep hp0 hp0.size hb1
    have hst := store_last w1 w1.heap.size rfl Z84 cs zc Z84_size OC.out
    have hc2 := hkd w1 hB
    have hz4 : w.heap.size + 4 ≤ w1.heap.size := by have := hb1.size; simpa using this
    have f1' := (hb1.block (w.heap.size + 1) (by simp <;> omega)).trans F1.out
    have f2' := (hb1.block (w.heap.size + 1 + 1) (by simp <;> omega)).trans F2.out
    have f3' := (hb1.block (w.heap.size + 1 + 1 + 1) (by simp)).trans F3.out
    have x1 : (w1.alloc (.cells cs 84)).cell? ⟨w.heap.size + 1, 0, none⟩ = some (.int .i64 one) := (cell_of_row _ _ _ _ _ _ (row_alloc _ _ _ _ f1')).trans rfl
    have x2 : (w1.alloc (.cells cs 84)).cell? ⟨w.heap.size + 1 + 1, 0, none⟩ = some (.int .i64 two) := (cell_of_row _ _ _ _ _ _ (row_alloc _ _ _ _ f2')).trans rfl
    have H3 := Lib.hid (row_alloc w1 _ _ (.cells cs 84) f3')
    have HB := hB.alloc hB.size (.cells cs 84)
    clear hb1 F0 F1 F2 F3 f1' f2' f3' hkd
    go_wp2_with (first | refine wpList_alloc84 rfl rfl ?_ | fail)
    refine hc2.mono ?_
    rintro e w2 ⟨rfl, hb2⟩
    have H4 := Lib.hid ((hb2.block _ (by simp <;> omega)).trans H3.out)
    have HB2 := bstep HB HB.size hb2
    clear hb2 H3
    go_wp2_with (first | refine wpList_store29 (.tmp 6) (.tmp 29) rfl rfl (w.heap.size + 1 + 1 + 1) rfl 0 0 0 0 rfl H4.out ?_)
    refine bodyPost_ret (v := .tuple #[.agg #[.int .i64 0, .int .i64 0], .int .i64 17]) (results_rng_tmp rfl _ _ (w.heap.size + 1 + 1 + 1) 0 0 _ rfl rfl (row_setRow _ _ _ _ _ _ H4.out)) rfl ⟨rfl, below_setRow HB2 (by omega) _⟩
  · have ha : firstAns Wd ss ds one two = (((((prefixes ds n').findIdx fun z => meetB Wd ss (fun i => (z i).2) one two : Nat) : Int) + 1, (((prefixes ds n').findIdx fun z => meetB Wd ss (fun i => (z i).1) one two : Nat) : Int) + 1), (0 : Int)) := by unfold firstAns; rw [if_pos he, if_neg hk, hb.nds]
    rw [ha]
    have hf78 := fun w3 hB3 A3 n3 c3 h3n hH P Q e1 e2 hp hq => firstSized Wd A n c A' n' c' 78 #[.pointer (some ⟨P, 0, none⟩), .pointer (some ⟨Q, 0, none⟩)] enters78 (fun z => meetB Wd ss (fun i => (z i).2) one two) A3 n3 c3 (prefixes ds n') w3 h3n (by rw [h3n, prefixes_length]; exact hb.nle') hH
      (met78 one two P Q _ w3 ((hb.kept hB3 (Nat.le_refl _)).wider hB3.size) h0 (fun z hz i => by obtain ⟨j, _, rfl⟩ := List.mem_map.1 hz; exact sizes_bd' h0 _ i) h2.1 h2.2 h3.1 h3.2 h1 e1 e2 hp hq)
    have hf81 := fun w3 hB3 A3 n3 c3 h3n hH P Q e1 e2 hp hq => firstSized Wd A n c A' n' c' 81 #[.pointer (some ⟨P, 0, none⟩), .pointer (some ⟨Q, 0, none⟩)] enters81 (fun z => meetB Wd ss (fun i => (z i).1) one two) A3 n3 c3 (prefixes ds n') w3 h3n (by rw [h3n, prefixes_length]; exact hb.nle') hH
      (met81 one two P Q _ w3 ((hb.kept hB3 (Nat.le_refl _)).wider hB3.size) h0 (fun z hz i => by obtain ⟨j, _, rfl⟩ := List.mem_map.1 hz; exact sizes_bd' h0 _ i) h2.1 h2.2 h3.1 h3.2 h1 e1 e2 hp hq)
    have hmea : ∀ W k, Below w.heap.size w W → k ≤ n' → _ := fun W k hW hk => measured_any Wd A n c A' n' c' ss ds W k hk ((hb.kept hW (Nat.le_refl _)).wider hW.size) h0
    have hn40 := (bath_ok h0).2.1.2
    rw [← hb.nds] at hn40
    have hr1 : ((prefixes ds n').findIdx fun z => meetB Wd ss (fun i => (z i).2) one two) ≤ n' := by have := List.findIdx_le_length (xs := prefixes ds n') (p := fun z => meetB Wd ss (fun i => (z i).2) one two); rw [prefixes_length] at this; exact this
    have hr2 : ((prefixes ds n').findIdx fun z => meetB Wd ss (fun i => (z i).1) one two) ≤ n' := by have := List.findIdx_le_length (xs := prefixes ds n') (p := fun z => meetB Wd ss (fun i => (z i).1) one two); rw [prefixes_length] at this; exact this
    generalize ((prefixes ds n').findIdx fun z => meetB Wd ss (fun i => (z i).2) one two) = r1 at hf78 hr1 ⊢
    generalize ((prefixes ds n').findIdx fun z => meetB Wd ss (fun i => (z i).1) one two) = r2 at hf81 hr2 ⊢
    obtain ⟨kd, hkk⟩ : ∃ k, kindOf Wd ss (sizes ds) one two = k := ⟨_, rfl⟩
    rw [hkk] at hkd hk
    have hk0 : (kd == 0) = false := by simpa using hk
    obtain ⟨i0, hi, hz0, hz1, hz2⟩ := info_parts info84
    have HF1 := Lib.hid hf78
    have HF2 := Lib.hid hf81
    have HME := Lib.hid hmea
    have HI := Lib.hid hi
    have HZ0 := Lib.hid hz0
    have HZ1 := Lib.hid hz1
    have HZ2 := Lib.hid hz2
    clear ha hkk hk he h1 h2 h3 hf78 hf81 hmea hi hz0 hz1 hz2 hb
    go_enter Try.func25, Try.ntmps25
    go_wp2_with fail
    refine c1.mono ?_
    rintro e w1 ⟨rfl, hb1⟩
    have hB : Below w.heap.size w w1 := bstep hp0 hp0.size hb1
    have hst := store_last w1 w1.heap.size rfl Z84 cs zc Z84_size OC.out
    have hc2 := hkd w1 hB
    have hz4 : w.heap.size + 4 ≤ w1.heap.size := by have := hb1.size; simpa using this
    have f0' := (hb1.block (w.heap.size) (by simp <;> omega)).trans F0.out
    have f1' := (hb1.block (w.heap.size + 1) (by simp <;> omega)).trans F1.out
    have f2' := (hb1.block (w.heap.size + 1 + 1) (by simp <;> omega)).trans F2.out
    have f3' := (hb1.block (w.heap.size + 1 + 1 + 1) (by simp <;> omega)).trans F3.out
    have x1 : (w1.alloc (.cells cs 84)).cell? ⟨w.heap.size + 1, 0, none⟩ = some (.int .i64 one) := (cell_of_row _ _ _ _ _ _ (row_alloc _ _ _ _ f1')).trans rfl
    have x2 : (w1.alloc (.cells cs 84)).cell? ⟨w.heap.size + 1 + 1, 0, none⟩ = some (.int .i64 two) := (cell_of_row _ _ _ _ _ _ (row_alloc _ _ _ _ f2')).trans rfl
    have G0 := Lib.hid (row_alloc w1 _ _ (.cells cs 84) f0')
    have G1 := Lib.hid (row_alloc w1 _ _ (.cells cs 84) f1')
    have G2 := Lib.hid (row_alloc w1 _ _ (.cells cs 84) f2')
    have G3 := Lib.hid (row_alloc w1 _ _ (.cells cs 84) f3')
    have HB := hB.alloc hB.size (.cells cs 84)
    clear hb1 F0 F1 F2 F3 f0' f1' f2' f3' hkd
    go_wp2_with (first | refine wpList_alloc84 rfl rfl ?_ | fail)
    refine hc2.mono ?_
    rintro e w2 ⟨rfl, hb2⟩
    have K0 := Lib.hid ((hb2.block _ (by simp <;> omega)).trans G0.out)
    have K1 := Lib.hid ((hb2.block _ (by simp <;> omega)).trans G1.out)
    have K2 := Lib.hid ((hb2.block _ (by simp <;> omega)).trans G2.out)
    have K3 := Lib.hid ((hb2.block _ (by simp <;> omega)).trans G3.out)
    have HB2 := bstep HB HB.size hb2
    have hz5 : w.heap.size + 4 ≤ w2.heap.size := by have := hb2.size; simp at this; omega
    have y2 : w2.cell? ⟨w.heap.size, 2, none⟩ = some (.slice A' n' c') := (cell_of_row _ _ _ _ _ _ K0.out).trans rfl
    clear hb2 G0 G1 G2 G3 x1 x2 hst hc2
    go_wp2
    go_loopw [10, 11, 33] (fun v _ i wr => ∃ k : Nat, k ≤ n' ∧ i = .int .i64 k ∧ Hid (Below w2.heap.size w2 wr) ∧ Hid (wr.ownsRow w2.heap.size 84 23 v k ((prefixes ds k).flatMap (encZ Wd A n c A' n' c')))) (fun _ _ i _ => n' - (intOf i).toNat)
    case atStart => exact ⟨0, Nat.zero_le _, rfl, Lib.hid (Below.refl _ _), Lib.hid (World.ownsRow_nil _ _ _ _)⟩
    case round =>
      obtain ⟨k, hk, rfl, hBr, hO⟩ := hrel
      have hzr : w2.heap.size ≤ wr.heap.size := hBr.out.size
      have HB3 := bstep HB2 HB2.size hBr.out
      have k0 := (hBr.out.block _ (by omega)).trans K0.out
      by_cases hlt : k < n'
      · have hltz : (k : Int) < (n' : Int) := by omega
        have z0 : wr.cell? ⟨w.heap.size, 0, none⟩ = some (.int .i64 Wd) := (cell_of_row _ _ _ _ _ _ k0).trans rfl
        have z1 : wr.cell? ⟨w.heap.size, 1, none⟩ = some (.slice A n c) := (cell_of_row _ _ _ _ _ _ k0).trans rfl
        have z2 : wr.cell? ⟨w.heap.size, 2, none⟩ = some (.slice A' n' c') := (cell_of_row _ _ _ _ _ _ k0).trans rfl
        have hm := HME.out wr (k + 1) HB3 (by omega)
        rw [show ((k + 1 : Nat) : Int) = (k : Int) + 1 from rfl] at hm
        obtain ⟨ck, hck⟩ : ∃ ck, sizedCells Wd A n c A' n' c' (sizes (ds.take (k + 1))) = ck := ⟨_, rfl⟩
        rw [hck] at hm
        have zk : ck.size = 23 := by rw [← hck]; rfl
        have ok : ck.all (·.oneCell') = true := by rw [← hck]; exact sizedCells_one _ _ _ _ _ _ _ _
        have OK := Lib.hid ok
        have HCK := Lib.hid hck
        clear ok hck k0
        go_wp2_with fail
        refine hm.mono ?_
        rintro e w3 ⟨rfl, hb3⟩
        have hO3 := Lib.hid (owns_below hO.out hb3)
        have hz3 := hb3.size
        clear z0 z1 z2 y2 hm
        go_wp2_with (first | refine wpList_build99 (.tmp 40) rfl rfl Wd A n c A' n' c' (sizes (ds.take (k + 1))) ck HCK.out rfl ?_ | (at_builtin; refine wpList_append_own _ rfl (.tmp 36) (.tmp 41) 99 rfl w2.heap.size 84 i0 (.agg Z84) 23 216 Try.underlying99 HI.out HZ0.out HZ1.out HZ2.out rfl (by decide) _ k _ rfl (hO3.out.alloc _) ⟨w3.heap.size, 0, none⟩ 1 1 ck.toList rfl ?c1 ?c2 ?c3 ?c4 ?c5 ?c6 ?_))
        case c1 => simpa using zk
        case c2 =>
          intro j u hj
          rw [Addr.add_lit, cell_of_row _ _ _ _ _ _ (row_last w3 (.cells ck 84) _ rfl)]
          simpa using hj
        case c3 => exact fun u hu => Array.all_eq_true_iff_forall_mem.1 OK.out u (by simpa using hu)
        case c4 => unfold maxLen; omega
        case c5 => omega
        case c6 => simp; omega
        · intro v' w4 hown' hgrow _
          have hB4 := ((hBr.out.trans (hb3.mono hzr)).alloc (by omega) (.cells ck 84)).grown hgrow (by simp; omega) (fun b e => (hO3.out.lt b e).1)
          have hO4 : Hid (w4.ownsRow w2.heap.size 84 23 v' (k + 1) ((prefixes ds (k + 1)).flatMap (encZ Wd A n c A' n' c'))) := by
            refine Lib.hid ?_
            rw [prefixes_succ, List.flatMap_append]
            simpa [encZ, HCK.out] using hown'
          have HB4 := Lib.hid hB4
          clear hown' hgrow hB4 hO3 hO
          go_wp2
          go_roundw
          case measure => simp [intOf]; omega
          case rel => exact ⟨k + 1, by omega, by go_num, HB4, hO4⟩
      · have hltz : ¬ (k : Int) < (n' : Int) := by omega
        obtain rfl : k = n' := by omega
        obtain ⟨A3, c3, hv, hc3, hH⟩ := held_of_own (encZ Wd A n c A' k c') (fun _ => rfl) (prefixes ds k) (prefixes_length ds k).symm hO.out
        subst hv
        have k1 := (hBr.out.block _ (by omega)).trans K1.out
        have k2 := (hBr.out.block _ (by omega)).trans K2.out
        have k3 := (hBr.out.block _ (by omega)).trans K3.out
        have z1 : wr.cell? ⟨w.heap.size + 1, 0, none⟩ = some (.int .i64 one) := (cell_of_row _ _ _ _ _ _ k1).trans rfl
        have z2 : wr.cell? ⟨w.heap.size + 1 + 1, 0, none⟩ = some (.int .i64 two) := (cell_of_row _ _ _ _ _ _ k2).trans rfl
        have d1 := HF1.out wr HB3 A3 k c3 (prefixes_length ds k).symm hH (w.heap.size + 1) (w.heap.size + 1 + 1) (by omega) (by omega) z1 z2
        have d2 := fun w4 (hb4 : Below wr.heap.size wr w4) => HF2.out w4 (bstep HB3 HB3.size hb4) A3 k c3 (prefixes_length ds k).symm ((hH.kept hb4 (Nat.le_refl _)).wider hb4.size) (w.heap.size + 1) (w.heap.size + 1 + 1) (Nat.lt_of_lt_of_le (by omega) hb4.size) (Nat.lt_of_lt_of_le (by omega) hb4.size)
          ((hb4.cell (p := ⟨w.heap.size + 1, 0, none⟩) (by show w.heap.size + 1 < _; omega)).trans z1) ((hb4.cell (p := ⟨w.heap.size + 1 + 1, 0, none⟩) (by show w.heap.size + 1 + 1 < _; omega)).trans z2)
        have HD2 := Lib.hid d2
        have k3' := Lib.hid k3
        clear d2 k0 k1 k2 k3 z1 z2 y2 hH hO HF1 HF2 HME
        go_wp2_with fail
        refine d1.mono ?_
        rintro e w5 ⟨rfl, hb5⟩
        have d2 := HD2.out w5 hb5
        clear d1 HD2
        go_wp2_with fail
        refine d2.mono ?_
        rintro e w6 ⟨rfl, hb6⟩
        have hb7 := bstep hb5 hb5.size hb6
        have H9 := Lib.hid ((hb7.block _ (by omega)).trans k3'.out)
        have HB9 := bstep HB3 HB3.size hb7
        clear d2 hb5 hb6 hb7 k3'
        go_wp2_with (first | refine wpList_store29 (.tmp 6) (.tmp 54) rfl rfl (w.heap.size + 1 + 1 + 1) rfl _ _ 0 0 rfl H9.out ?_)
        refine bodyPost_ret (v := .tuple #[.agg #[.int .i64 ((r1 : Int) + 1), .int .i64 ((r2 : Int) + 1)], .int .i64 0]) (results_rng_tmp rfl _ _ (w.heap.size + 1 + 1 + 1) ((r1 : Int) + 1) ((r2 : Int) + 1) _ rfl rfl (row_setRow _ _ _ _ _ _ H9.out)) rfl ⟨rfl, below_setRow HB9 (by omega) _⟩
end
end Go.Proofs.Ytckndnaohggmhaa

/- at; the table of which places hold together, as cells. -/
namespace Go.Proofs.Ytckndnaohggmhaa
open Go.RowKit Go.Shelf

set_option maxHeartbeats 400000 in
theorem at_any (x : Int) (w : World) (h1 : -2 ≤ x) (h2 : x ≤ 1000) : Calls Try.prog 95 #[.int .i64 x] w fun e w' => e = .returned (.int .i64 (x + 2)) ∧ w' = w := by
  go_enter Try.func95, Try.ntmps95
  go_wp2
  go_ret
  exact ⟨ret_num (by omega), rfl⟩

/-- A table of 12 times 12, as cells. -/
def matCells (H : Nat → Nat → Bool) : Array Value := Array.ofFn (n := 144) fun i => .bool (H (i.val / 12) (i.val % 12))
theorem matCells_size (H : Nat → Nat → Bool) : (matCells H).size = 144 := by simp [matCells]
theorem matCells_get (H : Nat → Nat → Bool) (i j : Nat) (hi : i < 12) (hj : j < 12) : (matCells H)[i * 12 + j]? = some (.bool (H i j)) := by
  have h : i * 12 + j < 144 := by omega
  have e1 : (i * 12 + j) / 12 = i := by omega
  have e2 : (i * 12 + j) % 12 = j := by omega
  simp [matCells, h, e1, e2]
theorem matCells_one (H : Nat → Nat → Bool) : (matCells H).all (·.oneCell') = true := by
  rw [Array.all_eq_true_iff_forall_mem]
  intro v hv
  simp [matCells] at hv
  obtain ⟨i, rfl⟩ := hv
  rfl
theorem matCells_congr {H H' : Nat → Nat → Bool} (h : ∀ i j, i < 12 → j < 12 → H i j = H' i j) : matCells H = matCells H' := by
  unfold matCells
  congr 1
  funext i
  rw [h _ _ (by omega) (by omega)]
theorem matCells_set (H H' : Nat → Nat → Bool) (i j : Nat) (_hi : i < 12) (hj : j < 12) (b : Bool) (h1 : H' i j = b) (h2 : ∀ a c, a < 12 → c < 12 → ¬ (a = i ∧ c = j) → H' a c = H a c) : (matCells H).setIfInBounds (i * 12 + j) (.bool b) = matCells H' := by
  apply Array.ext
  · simp [matCells]
  · intro k hk1 hk2
    have hk : k < 144 := by simpa [matCells] using hk2
    rw [Array.getElem_setIfInBounds (by rw [matCells_size]; exact hk)]
    split
    · rename_i e
      have e1 : k / 12 = i := by omega
      have e2 : k % 12 = j := by omega
      simp [matCells, e1, e2, h1]
    · rename_i e
      simp only [matCells, Array.getElem_ofFn]
      rw [h2 _ _ (by omega) (by omega) (by omega)]

def Z135 : Array Value := matCells fun _ _ => false
theorem info135 : (Try.prog.info? 135).map (fun i => (i.zero, i.size)) = some (some (.agg Z135), 144) := by kernel_rfl
theorem zero135 (w : World) : (zeroValue 135).run Try.prog w = .ok (.agg Z135) w := (zero_of_info info135).1 w
theorem size135 : (Try.prog.info? 135).map (·.size) = some 144 := (zero_of_info info135).2

theorem wpList_alloc135 {ops : Array Oper} {rest : List Oper} {o : Oper} {a : Act} {w : World} {Q : Exit → Act → World → Prop} (hg : o.guard = none) (ho : o.op = .alloc 135) (h : wpList Try.prog ops Q rest (a.put o.dst (.pointer (some ⟨w.heap.size, 0, none⟩))) (w.alloc (.cells Z135 135))) : wpList Try.prog ops Q (o :: rest) a w := by
  refine wpList_plain hg fun K hK => ?_
  unfold Oper.wp execOp
  simp only [ho]
  have hz := zero135 w
  have hn : (newVar 135 (.agg Z135)).run Try.prog w = .ok ⟨w.heap.size, 0, none⟩ (w.alloc (.cells Z135 135)) := by
    go_simp
  simp [Instr.alloc, hz, hn]
  exact hK _ _ h

theorem wpListIn_alloc135 {F : Fence} {n : Nat} {ops : Array Oper} {rest : List Oper} {o : Oper} {a : Act} {w : World} {Q : Exit → Act → World → Prop} (hg : o.guard = none) (ho : o.op = .alloc 135) (h : wpListIn F n Try.prog ops Q rest (a.put o.dst (.pointer (some ⟨w.heap.size, 0, none⟩))) (w.alloc (.cells Z135 135))) : wpListIn F n Try.prog ops Q (o :: rest) a w := by
  refine wpListIn_plain hg fun K hK => ?_
  unfold Oper.wpIn
  refine ⟨by simp [Oper.about, ho], ?_⟩
  rw [Oper.semAt_plain F _ _ (by rw [ho]; intro c hc'; cases hc')]
  have hz := zero135 w
  have hn : (newVar 135 (.agg Z135)).run Try.prog w = .ok ⟨w.heap.size, 0, none⟩ (w.alloc (.cells Z135 135)) := by
    go_simp
  simp [execOp, ho, Instr.alloc, hz, hn]
  exact hK _ _ h

theorem heap_kept {A B : World} {row : Option Nat} {b : Nat} {cs : Array Value} {t : TypeId} {fr : Nat × Nat} (h : A.heap[b]? = some (.cells cs t fr)) (hg : A.grownBy B row) (hr : ∀ r, row = some r → ∃ o : Obj, A.heap[r]? = some o ∧ o.isCells = false) : B.heap[b]? = some (.cells cs t fr) := by
  rw [hg.block b (Array.getElem?_eq_some_iff.1 h).1 (fun e => by
    obtain ⟨o, ho, hc⟩ := hr b e.symm
    rw [h] at ho
    cases ho
    cases hc), h]
end Go.Proofs.Ytckndnaohggmhaa
