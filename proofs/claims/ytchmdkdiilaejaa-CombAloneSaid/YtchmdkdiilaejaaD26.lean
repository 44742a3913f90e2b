/- Texts of one package, joined: OpenSheet, Posts, OpenMore, RefApReg, RefApart31, ProvedReg. -/
import Derived.Test.YtchmdkdiilaejaaD25
import Derived.ProofKit
import Derived.OpenShut
import Derived.Lib.SmallJoins
import Derived.Deep.Slices
/- A sheet, and a row, that come in as arguments: what their values are. -/
namespace Go.Proofs.Ytchmdkdiilaejaa
open Go.ChangeShapes Go.WideShapes Go.ChangeAt Go.RowKit Go.Deep Go.Joins

section
variable {H : Type} {enc : TypeId × Value → H} {w : World} {base : Nat} {held : Bool}

theorem held_of_slice {α : Type} [Inhabited α] {k : Nat} {el : α → List Value} {t e : TypeId} {fuel : Nat} {cs : List Value} {x : DataW H × List MemPlace} (ht : Try.prog.underlying t = some (.slice e)) (hk : Try.prog.cellsOf e = k) (hk0 : 0 < k)
    (one : ∀ (m : Nat) (cs' : List Value) (y : DataW H × List MemPlace), DataW.trod enc Try.prog w base (fun _ => true) held m e cs' = some y → ∃ z : α, cs' = el z)
    (h : DataW.trod enc Try.prog w base (fun _ => true) held fuel t cs = some x) :
    ∃ A n c, ∃ xs : List α, cs = [.slice A n c] ∧ n = xs.length ∧ n ≤ c ∧ c ≤ maxLen ∧ Held w w.heap.size k el A xs := by
  rcases open_slice ht h with ⟨rfl, _⟩ | ⟨a, len, cap, m, n, D, Pl, rfl, _, hl, hm, hmm, _, hx⟩
  · exact ⟨none, 0, 0, [], rfl, rfl, Nat.le_refl _, Nat.zero_le _, .inl rfl⟩
  · simp only [if_true] at hmm
    rw [hk] at hx
    obtain ⟨z, hz⟩ := choose_lt (n := len) (p := fun i z => w.cells? base (a.add (i * k)) k = some (el z)) (fun i hi => by
      obtain ⟨cs', h1, h2⟩ := hx i (by omega)
      obtain ⟨z, rfl⟩ := one _ _ _ h2
      exact ⟨z, h1⟩)
    refine ⟨some a, len, cap, (List.range len).map z, rfl, by simp, hl, hm, ?_⟩
    by_cases h0 : len = 0
    · left
      subst h0
      rfl
    · right
      obtain ⟨b, off, spot⟩ := a
      obtain ⟨_, hlen0, hc0⟩ := World.cells?_some (hz 0 (by omega))
      have hfirst := hc0 0 hk0
      obtain ⟨v0, hv0⟩ : ∃ v0, (el (z 0))[0]? = some v0 := ⟨_, List.getElem?_eq_getElem (by omega)⟩
      rw [hv0] at hfirst
      have hspot : spot = none := by simpa [Addr.add] using World.cell?_spot hfirst
      subst hspot
      refine ⟨b, off, rfl, ?_, fun j x hj i v hi => ?_⟩
      · have := World.block_lt_of_cell? w _ hfirst
        simpa [Addr.add] using this
      · rw [List.getElem?_map, Option.map_eq_some_iff] at hj
        obtain ⟨j', hj', rfl⟩ := hj
        obtain ⟨hjl, hj'⟩ := List.getElem?_eq_some_iff.1 hj'
        simp only [List.getElem_range] at hj'
        subst hj'
        rw [List.length_range] at hjl
        obtain ⟨_, hlenj, hcj⟩ := World.cells?_some (hz j hjl)
        have hik : i < k := by
          have := (List.getElem?_eq_some_iff.1 hi).1
          omega
        have := hcj i hik
        rw [hi] at this
        rw [Addr.add_lit, Addr.add_lit] at this
        exact this

set_option maxRecDepth 100000 in
theorem kind_of_trod {m : Nat} {cs' : List Value} {y : DataW H × List MemPlace} {spare : Nat → Bool} (h : DataW.trod enc Try.prog w base spare held m 65 cs' = some y) : ∃ z : Int × Int, cs' = encS z := by
  obtain ⟨y0, y1, n, _, hl, h0, h1⟩ := trod_struct2 Try.underlying65 h
  rw [show Try.prog.cellsOf 65 = 2 from by kernel_rfl] at hl
  match cs', hl with
  | [c0, c1], _ =>
    simp only [show Try.prog.cellsOf 2 = 1 from by kernel_rfl, show Try.prog.cellsOf 3 = 1 from by kernel_rfl, List.drop_zero, List.take_succ_cons, List.take_zero, List.drop_succ_cons] at h0 h1
    obtain ⟨a, ha, _, _⟩ := DataW.trod_int Try.underlying2 h0
    obtain ⟨b, hb, _, _⟩ := DataW.trod_int Try.underlying3 h1
    simp only [List.cons.injEq, and_true] at ha hb
    subst ha hb
    exact ⟨(a, b), rfl⟩
set_option maxRecDepth 100000 in
theorem range_of_trod {m : Nat} {cs' : List Value} {y : DataW H × List MemPlace} {spare : Nat → Bool} (h : DataW.trod enc Try.prog w base spare held m 75 cs' = some y) : ∃ z : Int × Int, cs' = encS z := by
  obtain ⟨y0, y1, n, _, hl, h0, h1⟩ := trod_struct2 Try.underlying75 h
  rw [show Try.prog.cellsOf 75 = 2 from by kernel_rfl] at hl
  match cs', hl with
  | [c0, c1], _ =>
    simp only [show Try.prog.cellsOf 2 = 1 from by kernel_rfl, List.drop_zero, List.take_succ_cons, List.take_zero, List.drop_succ_cons] at h0 h1
    obtain ⟨a, ha, _, _⟩ := DataW.trod_int Try.underlying2 h0
    obtain ⟨b, hb, _, _⟩ := DataW.trod_int Try.underlying2 h1
    simp only [List.cons.injEq, and_true] at ha hb
    subst ha hb
    exact ⟨(a, b), rfl⟩
set_option maxRecDepth 100000 in
theorem open_sheet {r : Reach} {b0 : Nat} {v : Value} {d : DataW H} {p : List MemPlace} (hv : Value.okWide Try.prog w r b0 25 v) (h : DataW.Trod enc Try.prog w base (fun _ => true) held 25 v d p) :
    ∃ A n c A' n' c' cs ms, v = .agg #[.slice A n c, .slice A' n' c'] ∧ IsSheet w w.heap.size A n c A' n' c' cs ms := by
  obtain ⟨c1, c2, y1, y2, m, rfl, _, _, h1, h2⟩ := open_agg2 Try.underlying25 (by kernel_rfl) (by kernel_rfl) hv h
  obtain ⟨A, n, c, cs, hA, hn, hc, hcm, hh⟩ := held_of_slice (el := encS) (k := 2) Try.underlying22 (by kernel_rfl) (by omega) (fun _ _ _ h => kind_of_trod h) h1
  obtain ⟨A', n', c', ms, hA', hn', hc', hcm', hh'⟩ := held_of_slice (el := encS) (k := 2) Try.underlying23 (by kernel_rfl) (by omega) (fun _ _ _ h => range_of_trod h) h2
  simp only [List.cons.injEq, and_true] at hA hA'
  subst hA hA'
  have hm : maxLen ≤ 9223372036854775807 := by unfold maxLen; omega
  exact ⟨A, n, c, A', n', c', cs, ms, rfl, hn, hn', by omega, by omega, hc, hc', hh, hh'⟩
set_option maxRecDepth 100000 in
theorem open_row {r : Reach} {b0 : Nat} {v : Value} {d : DataW H} {p : List MemPlace} (hv : Value.okWide Try.prog w r b0 27 v) (h : DataW.Trod enc Try.prog w base (fun _ => true) held 27 v d p) :
    ∃ y1 y2, v = .agg #[.int .i64 y1, .int .i64 y2] := by
  obtain ⟨c1, c2, y1, y2, m, rfl, _, _, h1, h2⟩ := open_agg2 Try.underlying27 (by kernel_rfl) (by kernel_rfl) hv h
  obtain ⟨a, ha, _, _⟩ := DataW.trod_int Try.underlying3 h1
  obtain ⟨b, hb, _, _⟩ := DataW.trod_int Try.underlying2 h2
  simp only [List.cons.injEq, and_true] at ha hb
  subst ha hb
  exact ⟨a, b, rfl⟩
end
end Go.Proofs.Ytchmdkdiilaejaa

/- What the functions hand over, as slices that are held. -/
namespace Go.Proofs.Ytchmdkdiilaejaa
open Go.RowKit Go.Shelf
attribute [local irreducible] bitCells fitCells Z94 fitOf

theorem owns_bound {W : World} {base : Nat} {e : TypeId} {size n : Nat} {v : Value} {xs : List Value} (h : W.ownsRow base e size v n xs) : n ≤ 9223372036854775807 := by
  rcases h.2 with ⟨_, h1⟩ | ⟨_, cap, _, _, _, _, h1, h2, _⟩
  · omega
  · unfold maxLen at h2; omega
theorem post_ints {cs ms : List (Int × Int)} {err : Int} {xs : List Int} {w w' : World} {e : Ending} (h : SheetPost cs ms err (fun B w' v => MadeInts B xs w' v) w e w') :
    Ext w w' ∧ ∃ A m c, e = .returned (.tuple #[.slice A m c, .int .i64 err]) ∧ m = (if err = 0 then xs else []).length ∧ m ≤ 9223372036854775807 ∧ Held w' w'.heap.size 1 encI A (if err = 0 then xs else []) := by
  obtain ⟨hE, ⟨hne, rfl⟩ | ⟨h0, v, rfl, hM⟩⟩ := h
  · rw [if_neg hne]
    exact ⟨hE, none, 0, 0, rfl, rfl, by omega, .inl rfl⟩
  · subst h0
    rw [if_pos rfl]
    obtain ⟨A, c, rfl⟩ := made_slice hM
    exact ⟨hE, A, _, c, rfl, rfl, owns_bound hM.1, ints_held hM rfl⟩
theorem post_longs {cs ms : List (Int × Int)} {err : Int} {xs : List Int} {w w' : World} {e : Ending} (h : SheetPost cs ms err (fun B w' v => MadeLongs B xs w' v) w e w') :
    Ext w w' ∧ ∃ A m c, e = .returned (.tuple #[.slice A m c, .int .i64 err]) ∧ m = (if err = 0 then xs else []).length ∧ m ≤ 9223372036854775807 ∧ Held w' w'.heap.size 1 encI A (if err = 0 then xs else []) := by
  obtain ⟨hE, ⟨hne, rfl⟩ | ⟨h0, v, rfl, hM⟩⟩ := h
  · rw [if_neg hne]
    exact ⟨hE, none, 0, 0, rfl, rfl, by omega, .inl rfl⟩
  · subst h0
    rw [if_pos rfl]
    obtain ⟨A, c, rfl⟩ := made_slice2 hM
    exact ⟨hE, A, _, c, rfl, rfl, owns_bound hM.1, longs_held hM rfl⟩
theorem places_same {cs ms : List (Int × Int)} {q : Int} : (if placesErr cs ms q = 0 then placesOf q (fitsOf cs ms) else []) = if placesErr cs ms q = 0 then atsOf cs ms q.toNat else [] := by
  by_cases h : placesErr cs ms q = 0
  · rw [if_pos h, if_pos h]
    unfold placesErr at h
    by_cases h0 : sheetErr cs ms = 0
    · rw [if_pos h0] at h
      cases hs : strange cs.length (q, 0) with
      | true => rw [hs, if_pos rfl] at h; cases h
      | false =>
        obtain ⟨h1, h2⟩ := (strange_iff _ _).1 hs
        have := places_are (cs := cs) (ms := ms) h0 (q := q.toNat) (by dsimp only at h1 h2; omega)
        rwa [show ((q.toNat : Nat) : Int) = q from by dsimp only at h1; omega] at this
    · rw [if_neg h0] at h
      exact absurd h h0
  · rw [if_neg h, if_neg h]

end Go.Proofs.Ytchmdkdiilaejaa

/- Lists that come in as arguments; five arguments. -/
namespace Go.Proofs.Ytchmdkdiilaejaa
open Go.ChangeShapes Go.WideShapes Go.ChangeAt Go.RowKit Go.Deep Go.Joins

section
variable {H : Type} {enc : TypeId × Value → H} {w : World} {base : Nat} {held : Bool}

set_option maxRecDepth 100000 in
theorem open_pairs {t e : TypeId} (ht : Try.prog.underlying t = some (.slice e)) (hk : Try.prog.cellsOf e = 2) (one : ∀ (m : Nat) (cs' : List Value) (y : DataW H × List MemPlace), DataW.trod enc Try.prog w base (fun _ => true) held m e cs' = some y → ∃ z : Int × Int, cs' = encS z)
    {r : Reach} {b0 : Nat} {v : Value} {d : DataW H} {p : List MemPlace} (hv : Value.okWide Try.prog w r b0 t v) (h : DataW.Trod enc Try.prog w base (fun _ => true) held t v d p) :
    ∃ L k c, ∃ xs : List (Int × Int), v = .slice L k c ∧ k = xs.length ∧ k ≤ 9223372036854775807 ∧ k ≤ c ∧ Held w w.heap.size 2 encS L xs := by
  obtain ⟨a, len, cap, rfl⟩ := okWide_slice ht hv
  obtain ⟨fuel, hf⟩ := h
  obtain ⟨L, k, c, xs, hA, hn, hc, hcm, hh⟩ := held_of_slice (el := encS) (k := 2) ht hk (by omega) one hf
  have hm : maxLen ≤ 9223372036854775807 := by unfold maxLen; omega
  have e : [Value.slice a len cap] = [Value.slice L k c] := hA
  simp only [List.cons.injEq, and_true] at e
  exact ⟨L, k, c, xs, e, hn, by omega, hc, hh⟩
set_option maxRecDepth 100000 in
theorem open_ranges {r : Reach} {b0 : Nat} {v : Value} {d : DataW H} {p : List MemPlace} (hv : Value.okWide Try.prog w r b0 23 v) (h : DataW.Trod enc Try.prog w base (fun _ => true) held 23 v d p) :
    ∃ L k c, ∃ xs : List (Int × Int), v = .slice L k c ∧ k = xs.length ∧ k ≤ 9223372036854775807 ∧ k ≤ c ∧ Held w w.heap.size 2 encS L xs :=
  open_pairs Try.underlying23 (by kernel_rfl) (fun _ _ _ h => range_of_trod h) hv h
set_option maxRecDepth 100000 in
theorem row_of_trod {m : Nat} {cs' : List Value} {y : DataW H × List MemPlace} {spare : Nat → Bool} (h : DataW.trod enc Try.prog w base spare held m 27 cs' = some y) : ∃ z : Int × Int, cs' = encS z := by
  obtain ⟨y0, y1, n, _, hl, h0, h1⟩ := trod_struct2 Try.underlying27 h
  rw [show Try.prog.cellsOf 27 = 2 from by kernel_rfl] at hl
  match cs', hl with
  | [c0, c1], _ =>
    simp only [show Try.prog.cellsOf 2 = 1 from by kernel_rfl, show Try.prog.cellsOf 3 = 1 from by kernel_rfl, List.drop_zero, List.take_succ_cons, List.take_zero, List.drop_succ_cons] at h0 h1
    obtain ⟨a, ha, _, _⟩ := DataW.trod_int Try.underlying3 h0
    obtain ⟨b, hb, _, _⟩ := DataW.trod_int Try.underlying2 h1
    simp only [List.cons.injEq, and_true] at ha hb
    subst ha hb
    exact ⟨(a, b), rfl⟩
set_option maxRecDepth 100000 in
theorem open_rows {r : Reach} {b0 : Nat} {v : Value} {d : DataW H} {p : List MemPlace} (hv : Value.okWide Try.prog w r b0 54 v) (h : DataW.Trod enc Try.prog w base (fun _ => true) held 54 v d p) :
    ∃ L k c, ∃ xs : List (Int × Int), v = .slice L k c ∧ k = xs.length ∧ k ≤ 9223372036854775807 ∧ k ≤ c ∧ Held w w.heap.size 2 encS L xs :=
  open_pairs Try.underlying54 (by kernel_rfl) (fun _ _ _ h => row_of_trod h) hv h
set_option maxRecDepth 100000 in
theorem open_marks {r : Reach} {b0 : Nat} {v : Value} {d : DataW H} {p : List MemPlace} (hv : Value.okWide Try.prog w r b0 30 v) (h : DataW.Trod enc Try.prog w base (fun _ => true) held 30 v d p) :
    ∃ L k c, ∃ xs : List Int, v = .slice L k c ∧ k = xs.length ∧ k ≤ 9223372036854775807 ∧ k ≤ c ∧ Held w w.heap.size 1 encI L xs := by
  obtain ⟨a, len, cap, rfl⟩ := okWide_slice Try.underlying30 hv
  obtain ⟨fuel, hf⟩ := h
  obtain ⟨L, k, c, xs, hA, hn, hc, hcm, hh⟩ := held_of_slice (el := encI) (k := 1) Try.underlying30 (by kernel_rfl) (by omega) (fun _ _ _ h => by
    obtain ⟨a, ha, _, _⟩ := DataW.trod_int Try.underlying3 h
    exact ⟨a, ha⟩) hf
  have hm : maxLen ≤ 9223372036854775807 := by unfold maxLen; omega
  have e : [Value.slice a len cap] = [Value.slice L k c] := hA
  simp only [List.cons.injEq, and_true] at e
  exact ⟨L, k, c, xs, e, hn, by omega, hc, hh⟩
set_option maxRecDepth 100000 in
theorem open_kind {r : Reach} {b0 : Nat} {v : Value} {d : DataW H} {p : List MemPlace} (hv : Value.okWide Try.prog w r b0 65 v) (h : DataW.Trod enc Try.prog w base (fun _ => true) held 65 v d p) :
    ∃ y1 y2, v = .agg #[.int .i64 y1, .int .i64 y2] := by
  obtain ⟨c1, c2, y1, y2, m, rfl, _, _, h1, h2⟩ := open_agg2 Try.underlying65 (by kernel_rfl) (by kernel_rfl) hv h
  obtain ⟨a, ha, _, _⟩ := DataW.trod_int Try.underlying2 h1
  obtain ⟨b, hb, _, _⟩ := DataW.trod_int Try.underlying3 h2
  simp only [List.cons.injEq, and_true] at ha hb
  subst ha hb
  exact ⟨a, b, rfl⟩

theorem trodAll_five {P : Program} {spare : Nat → Bool} {t t' t2 t3 t4 : TypeId} {args : Array Value} {ds : List (DataW H)} {ps : List MemPlace} (h : DataW.TrodAll enc P w base spare held [t, t', t2, t3, t4] args.toList ds ps) :
    ∃ v v' v2 v3 v4 d d' d2 d3 d4 p p' p2 p3 p4, args = #[v, v', v2, v3, v4] ∧ ds = [d, d', d2, d3, d4] ∧ ps = p ++ (p' ++ (p2 ++ (p3 ++ p4))) ∧ DataW.Trod enc P w base spare held t v d p ∧ DataW.Trod enc P w base spare held t' v' d' p' ∧ DataW.Trod enc P w base spare held t2 v2 d2 p2 ∧ DataW.Trod enc P w base spare held t3 v3 d3 p3 ∧ DataW.Trod enc P w base spare held t4 v4 d4 p4 := by
  obtain ⟨v, vs, d, ds', p, q, hargs, rfl, rfl, hd, hr⟩ := trodAll_cons h
  obtain ⟨v', vs', d', ds'', p', q', rfl, rfl, rfl, hd', hr'⟩ := trodAll_cons hr
  obtain ⟨v2, vs2, d2, ds2, p2, q2, rfl, rfl, rfl, hd2, hr2⟩ := trodAll_cons hr'
  obtain ⟨v3, vs3, d3, ds3, p3, q3, rfl, rfl, rfl, hd3, hr3⟩ := trodAll_cons hr2
  obtain ⟨v4, vs4, d4, ds4, p4, q4, rfl, rfl, rfl, hd4, hr4⟩ := trodAll_cons hr3
  obtain ⟨rfl, rfl, rfl⟩ := trodAll_nil hr4
  exact ⟨v, v', v2, v3, v4, d, d', d2, d3, d4, p, p', p2, p3, p4, by cases args; simp_all, rfl, by simp, hd, hd', hd2, hd3, hd4⟩
end
end Go.Proofs.Ytchmdkdiilaejaa

/- CheckApart of the reference: its region with calls; fine. -/
namespace Go.Proofs.Ytchmdkdiilaejaa
open Go.RowKit Go.Shelf

/-- Marks as bits. -/
def marksNo (js : List Nat) : Nat := js.foldl (fun a j => a ||| 2 ^ j) 0
theorem marksNo_snoc (js : List Nat) (j : Nat) : marksNo (js ++ [j]) = marksNo js ||| 2 ^ j := by unfold marksNo; rw [List.foldl_append]; rfl
theorem marksNo_bit (js : List Nat) (i : Nat) : (marksNo js).testBit i = decide (i ∈ js) := by
  have key : ∀ (js : List Nat) (a : Nat), (js.foldl (fun a j => a ||| 2 ^ j) a).testBit i = (a.testBit i || decide (i ∈ js)) := by
    intro js
    induction js with
    | nil => intro a; simp
    | cons j js ih =>
      intro a
      rw [List.foldl_cons, ih, Nat.testBit_or, Nat.testBit_two_pow]
      by_cases e : j = i
      · subst e; simp
      · have e2 : ¬ i = j := fun h => e h.symm
        simp [e, e2]
  unfold marksNo
  rw [key]
  simp
theorem marksNo_lt {js : List Nat} {m : Nat} (h : ∀ j, j ∈ js → j < m) : marksNo js < 2 ^ m := by
  refine Nat.lt_pow_two_of_testBit _ fun i hi => ?_
  rw [marksNo_bit, decide_eq_false]
  intro hm
  have := h i hm
  omega
theorem filter_perm2 {r xs : List Nat} (hx : xs.Nodup) (hr : r.Nodup) (h : ∀ x, x ∈ r → x ∈ xs) : (xs.filter fun x => decide (x ∈ r)).Perm r := by
  refine (List.perm_ext_iff_of_nodup (hx.sublist List.filter_sublist) hr).2 fun x => ?_
  rw [List.mem_filter, decide_eq_true_eq]
  exact ⟨fun h => h.2, fun hh => ⟨h x hh, hh⟩⟩
/-- How many of a list of marks a row has, counted by bits. -/
theorem crowd_bits {cs ms : List (Int × Int)} (h12 : ms.length ≤ 12) (x : Rw) {js : List Nat} (hn : js.Nodup) (hl : ∀ j, j ∈ js → j < ms.length) : (numsTo (fun i => (noOf cs ms x &&& marksNo js).testBit i) 12).length = (js.filter (hadB cs ms x.1 x.2)).length := by
  unfold numsTo
  rw [List.length_map]
  have h1 : (List.range 12).filter (fun i => (noOf cs ms x &&& marksNo js).testBit i) = ((List.range 12).filter fun i => decide (i ∈ js)).filter (hadB cs ms x.1 x.2) := by
    rw [List.filter_filter]
    refine List.filter_congr fun i hi => ?_
    rw [List.mem_range] at hi
    rw [Nat.testBit_and, noOf_bit, marksNo_bit, decide_eq_true hi, Bool.true_and]
  rw [h1]
  exact ((filter_perm2 List.nodup_range hn fun x hx => List.mem_range.2 (by have := hl x hx; omega)).filter _).length_eq
theorem sorted_nodup {js : List Nat} (h : js.Pairwise (· < ·)) : js.Nodup := h.imp fun hab => Nat.ne_of_lt hab
theorem rising_sorted {n : Nat} : ∀ {f : Int} {xs : List Int}, 0 ≤ f → rising n f xs = true → (xs.map Int.toNat).Pairwise (· < ·) ∧ ∀ j, j ∈ xs.map Int.toNat → j < n
  | f, [], _, _ => ⟨by simp, fun j hj => by simp at hj⟩
  | f, x :: xs, h0, h => by
    have hall := (rising_all h).1
    simp only [rising, Bool.and_eq_true, decide_eq_true_eq] at h
    obtain ⟨⟨h1, h2⟩, h3⟩ := h
    obtain ⟨i1, i2⟩ := rising_sorted (f := x + 1) (by omega) h3
    have hall2 := (rising_all h3).1
    refine ⟨?_, fun j hj => ?_⟩
    · rw [List.map_cons, List.pairwise_cons]
      refine ⟨fun j hj => ?_, i1⟩
      obtain ⟨y, hy, rfl⟩ := List.mem_map.1 hj
      have := hall2 y hy
      omega
    · obtain ⟨y, hy, rfl⟩ := List.mem_map.1 hj
      have := hall y hy
      omega

set_option maxRecDepth 100000 in
set_option maxHeartbeats 1000000 in
theorem fine_any {A : Option Addr} {n c : Nat} {A' : Option Addr} {n' c' : Nat} {cs ms : List (Int × Int)} {w : World} (hb : IsSheet w w.heap.size A n c A' n' c' cs ms) :
    Calls Try.prog 39 #[.agg #[.slice A n c, .slice A' n' c']] w fun e w' => e = .returned (.bool (decide (sheetErr cs ms = 0))) ∧ Ext w w' := by
  have hX0 := SheetAt.new hb
  have hE0 : Ext w (w.alloc (.cells #[.slice A n c, .slice A' n' c'] 25)) := ext_alloc w _
  have hgt : (decide (12 < n) || decide (18 < n')) = true → ¬ sheetErr cs ms = 0 := fun h h0 => by
    have h1 := (sheet_ok h0).1
    rw [← hb.ncs, ← hb.nms] at h1
    simp at h
    omega
  have HX := Lib.hid hX0
  have HE := Lib.hid hE0
  have h15 := great_any A A' n c n' c' (w.alloc (.cells #[.slice A n c, .slice A' n' c'] 25))
  clear hb hX0 hE0
  obtain ⟨gr, hgr⟩ : ∃ gr, (decide (12 < n) || decide (18 < n')) = gr := ⟨_, rfl⟩
  rw [hgr] at h15 hgt
  clear hgr
  obtain ⟨w0, hw0⟩ : ∃ w0, w.alloc (.cells #[.slice A n c, .slice A' n' c'] 25) = w0 := ⟨_, rfl⟩
  obtain ⟨r, hr⟩ : ∃ r, sheetErr cs ms = r := ⟨_, rfl⟩
  have HR := Lib.hid hr
  rw [hr] at hgt ⊢
  clear hr
  obtain ⟨q0, q1⟩ := HX.out.cells
  rw [hw0] at HX HE h15 q0 q1
  cases gr with
  | true =>
    have h0 := hgt rfl
    rw [decide_eq_false h0]
    go_enter Try.func39, Try.ntmps39
    go_wp2_with fail
    try rw [hw0]
    refine h15.mono ?_
    rintro e w1 ⟨rfl, e1⟩
    have HE := Lib.hid (HE.out.trans (show Ext w0 w1 from e1))
    clear e1 h15 hw0
    go_wp2
    go_ret
    exact ⟨rfl, HE.out⟩
  | false =>
    clear hgt
    go_enter Try.func39, Try.ntmps39
    go_wp2_with fail
    try rw [hw0]
    refine h15.mono ?_
    rintro e w1 ⟨rfl, e1⟩
    have e1 : Ext w0 w1 := e1
    have HX := Lib.hid (HX.out.ext e1)
    have HE := Lib.hid (HE.out.trans e1)
    clear e1 h15 hw0 q0 q1
    obtain ⟨q0, q1⟩ := HX.out.cells
    have h24 := refSheet_any HX.out.sheet
    rw [HR.out] at h24
    go_wp2_with fail
    refine h24.mono ?_
    rintro e w2 ⟨rfl, e2⟩
    have HE := Lib.hid (HE.out.trans e2)
    clear e2 h24
    by_cases h0 : r = 0
    · subst h0
      go_wp2
      go_ret
      exact ⟨ret_bool (by simp), HE.out⟩
    · have h0b : (r == 0) = false := by simpa using h0
      go_wp2
      go_ret
      exact ⟨ret_bool (by simp [h0]), HE.out⟩

/-- The slots of region 14 of function 31. -/
def ra14D (i : Nat) : Tmp := if i = 0 then 66 else if i = 1 then 67 else if i = 2 then 68 else if i = 3 then 69 else if i = 4 then 70 else if i = 5 then 71 else if i = 6 then 72 else if i = 7 then 73 else if i = 8 then 74 else if i = 9 then 75 else 76
/-- What each operation yields. -/
def ra14S (_p : Nat) (A : Option Addr) (n c : Nat) (A' : Option Addr) (n' c' g ln cl jj kk zz bt cn : Nat) (x : Int) (cb : Bool) (ix : Nat) (v : Value) (_W : World) : Prop :=
  match ix with
  | 0 => v = .agg #[.slice A n c, .slice A' n' c']
  | 1 => v = .slice (some ⟨g, 0, none⟩) ln cl
  | 2 => v = .int .i64 (jj : Int)
  | 3 => v = .pointer (some ⟨g, jj * 2, none⟩)
  | 4 => v = .agg #[.int .i64 (kk : Int), .int .i64 x]
  | 5 => v = .int .i64 (bt : Int)
  | 6 => v = .int .i64 (zz : Int)
  | 7 => v = .int .i64 ((bt &&& zz : Nat) : Int)
  | 8 => ∃ A9 c9, v = .slice A9 cn c9
  | 9 => v = .int .i64 (cn : Int)
  | 10 => v = .bool cb
  | _ => True
noncomputable def ra14Reg : Array Oper := (Try.f31.body.bind (regionOf · 14)).getD #[]
theorem ra14S_ext {p : Nat} {A : Option Addr} {n c : Nat} {A' : Option Addr} {n' c' g ln cl jj kk zz bt cn : Nat} {x : Int} {cb : Bool} : ∀ (i : Nat) (v : Value) (W W' : World), ra14S p A n c A' n' c' g ln cl jj kk zz bt cn x cb i v W → Below W.heap.size W W' → ra14S p A n c A' n' c' g ln cl jj kk zz bt cn x cb i v W' := by
  intro i v W W' h e
  match i with
  | 0 => exact h
  | 1 => exact h
  | 2 => exact h
  | 3 => exact h
  | 4 => exact h
  | 5 => exact h
  | 6 => exact h
  | 7 => exact h
  | 8 => exact h
  | 9 => exact h
  | 10 => exact h
  | k + 11 => exact trivial
def ra14Ok (p : Nat) (A : Option Addr) (n c : Nat) (A' : Option Addr) (n' c' g ln cl jj kk zz bt cn : Nat) (x : Int) (cb : Bool) (Q : Exit → Act → World → Prop) (a : Act) (W : World) (ix : Nat) (o : Oper) : Prop :=
  (∀ j b, o.guard = some (j, b) → a.eval (.tmp (ra14D j)) = .bool b) ∧ o.wp Try.prog a W (fun a'' W' => ∃ v, a'' = a.put o.dst v ∧ ra14S p A n c A' n' c' g ln cl jj kk zz bt cn x cb ix v W' ∧ Below W.heap.size W W') Q
section
variable {p : Nat} {A : Option Addr} {n c : Nat} {A' : Option Addr} {n' c' g ln cl jj kk zz bt cn : Nat} {x : Int} {cb : Bool} {Q : Exit → Act → World → Prop} {a : Act} {V W : World} {o : Oper}
set_option maxHeartbeats 1000000 in
theorem ra14_op0 (o2 : a.eval (.tmp 2) = .pointer (some ⟨p, 0, none⟩)) (q0 : ∀ W, Ext V W → W.cell? ⟨p, 0, none⟩ = some (.slice A n c)) (q1 : ∀ W, Ext V W → W.cell? ⟨p, 1, none⟩ = some (.slice A' n' c')) (hB : Ext V W) (ho : ra14Reg[0]? = some o) : ra14Ok p A n c A' n' c' g ln cl jj kk zz bt cn x cb Q a W 0 o := by
  have hop := op_at ho (·.op) (x := Op.load 25 (Operand.tmp 2)) (by kernel_rfl)
  have hgd := op_at ho (·.guard) (x := none) (by kernel_rfl)
  refine ⟨fun j b h => (by rw [hgd] at h; cases h), ?_⟩
  have q0' := q0 W hB
  have q1' := q1 W hB
  exact specs_value (R := fun v W => ra14S p A n c A' n' c' g ln cl jj kk zz bt cn x cb 0 v W) (v := .agg #[.slice A n c, .slice A' n' c']) (by simp [execOp, hop, go_sem, ev o2, q0', q1']) rfl (Ext.refl W)
set_option maxHeartbeats 1000000 in
theorem ra14_op1 (o7 : a.eval (.tmp 7) = .slice (some ⟨g, 0, none⟩) ln cl) (ho : ra14Reg[1]? = some o) : ra14Ok p A n c A' n' c' g ln cl jj kk zz bt cn x cb Q a W 1 o := by
  have hop := op_at ho (·.op) (x := Op.move (Operand.tmp 7)) (by kernel_rfl)
  have hgd := op_at ho (·.guard) (x := none) (by kernel_rfl)
  refine ⟨fun j b h => (by rw [hgd] at h; cases h), ?_⟩
  exact specs_value (R := fun v W => ra14S p A n c A' n' c' g ln cl jj kk zz bt cn x cb 1 v W) (v := .slice (some ⟨g, 0, none⟩) ln cl) (by simp [execOp, hop, go_sem, ev o7]) rfl (Ext.refl W)
set_option maxHeartbeats 1000000 in
theorem ra14_op2 (o8 : a.eval (.tmp 8) = .int .i64 (jj : Int)) (ho : ra14Reg[2]? = some o) : ra14Ok p A n c A' n' c' g ln cl jj kk zz bt cn x cb Q a W 2 o := by
  have hop := op_at ho (·.op) (x := Op.move (Operand.tmp 8)) (by kernel_rfl)
  have hgd := op_at ho (·.guard) (x := none) (by kernel_rfl)
  refine ⟨fun j b h => (by rw [hgd] at h; cases h), ?_⟩
  exact specs_value (R := fun v W => ra14S p A n c A' n' c' g ln cl jj kk zz bt cn x cb 2 v W) (v := .int .i64 (jj : Int)) (by simp [execOp, hop, go_sem, ev o8]) rfl (Ext.refl W)
set_option maxHeartbeats 1000000 in
theorem ra14_op3 (hj : jj < ln) (haft : ∀ j, (o.after.any fun e => decide (e.on = j) && Region.binds .any e) = true → ra14S p A n c A' n' c' g ln cl jj kk zz bt cn x cb j (a.eval (.tmp (ra14D j))) W) (ho : ra14Reg[3]? = some o) : ra14Ok p A n c A' n' c' g ln cl jj kk zz bt cn x cb Q a W 3 o := by
  have hop := op_at ho (·.op) (x := Op.indexAddr 54 (Operand.tmp 67) (Operand.tmp 68)) (by kernel_rfl)
  have hgd := op_at ho (·.guard) (x := none) (by kernel_rfl)
  have e1 : a.eval (.tmp 67) = .slice (some ⟨g, 0, none⟩) ln cl := haft 1 (op_at ho (fun o => o.after.any fun e => decide (e.on = 1) && Region.binds .any e) (x := true) (by kernel_rfl))
  have e2 : a.eval (.tmp 68) = .int .i64 (jj : Int) := haft 2 (op_at ho (fun o => o.after.any fun e => decide (e.on = 2) && Region.binds .any e) (x := true) (by kernel_rfl))
  refine ⟨fun j b h => (by rw [hgd] at h; cases h), ?_⟩
  have hjz : (jj : Int) < (ln : Int) := by omega
  exact specs_value (R := fun v W => ra14S p A n c A' n' c' g ln cl jj kk zz bt cn x cb 3 v W) (v := .pointer (some ⟨g, jj * 2, none⟩)) (by simp [execOp, hop, go_sem, ev e1, ev e2, hjz]) rfl (Ext.refl W)
set_option maxHeartbeats 1000000 in
theorem ra14_op4 (c0 : ∀ W, Ext V W → W.cell? ⟨g, jj * 2, none⟩ = some (.int .i64 (kk : Int))) (c1 : ∀ W, Ext V W → W.cell? ⟨g, jj * 2 + 1, none⟩ = some (.int .i64 x)) (hB : Ext V W) (haft : ∀ j, (o.after.any fun e => decide (e.on = j) && Region.binds .any e) = true → ra14S p A n c A' n' c' g ln cl jj kk zz bt cn x cb j (a.eval (.tmp (ra14D j))) W) (ho : ra14Reg[4]? = some o) : ra14Ok p A n c A' n' c' g ln cl jj kk zz bt cn x cb Q a W 4 o := by
  have hop := op_at ho (·.op) (x := Op.load 27 (Operand.tmp 69)) (by kernel_rfl)
  have hgd := op_at ho (·.guard) (x := none) (by kernel_rfl)
  have e3 : a.eval (.tmp 69) = .pointer (some ⟨g, jj * 2, none⟩) := haft 3 (op_at ho (fun o => o.after.any fun e => decide (e.on = 3) && Region.binds .any e) (x := true) (by kernel_rfl))
  refine ⟨fun j b h => (by rw [hgd] at h; cases h), ?_⟩
  have c0' := c0 W hB
  have c1' := c1 W hB
  exact specs_value (R := fun v W => ra14S p A n c A' n' c' g ln cl jj kk zz bt cn x cb 4 v W) (v := .agg #[.int .i64 (kk : Int), .int .i64 x]) (by simp [execOp, hop, go_sem, ev e3, c0', c1']) rfl (Ext.refl W)
set_option maxHeartbeats 1000000 in
theorem ra14_op5 (hcall : ∀ W, Ext V W → Calls Try.prog 59 #[.agg #[.slice A n c, .slice A' n' c'], .agg #[.int .i64 (kk : Int), .int .i64 x]] W fun e w' => e = .returned (.int .i64 (bt : Int)) ∧ Ext W w') (hB : Ext V W) (haft : ∀ j, (o.after.any fun e => decide (e.on = j) && Region.binds .any e) = true → ra14S p A n c A' n' c' g ln cl jj kk zz bt cn x cb j (a.eval (.tmp (ra14D j))) W) (ho : ra14Reg[5]? = some o) : ra14Ok p A n c A' n' c' g ln cl jj kk zz bt cn x cb Q a W 5 o := by
  have hop := op_at ho (·.op) (x := Op.call { callee := Callee.value (Operand.func 59), args := #[Operand.tmp 66, Operand.tmp 70], argTypes := #[25, 27] }) (by kernel_rfl)
  have hgd := op_at ho (·.guard) (x := none) (by kernel_rfl)
  have e0 : a.eval (.tmp 66) = .agg #[.slice A n c, .slice A' n' c'] := haft 0 (op_at ho (fun o => o.after.any fun e => decide (e.on = 0) && Region.binds .any e) (x := true) (by kernel_rfl))
  have e4 : a.eval (.tmp 70) = .agg #[.int .i64 (kk : Int), .int .i64 x] := haft 4 (op_at ho (fun o => o.after.any fun e => decide (e.on = 4) && Region.binds .any e) (x := true) (by kernel_rfl))
  refine ⟨fun j b h => (by rw [hgd] at h; cases h), ?_⟩
  refine specs_call (R := fun v W => ra14S p A n c A' n' c' g ln cl jj kk zz bt cn x cb 5 v W) (f := 59) (args := #[.agg #[.slice A n c, .slice A' n' c'], .agg #[.int .i64 (kk : Int), .int .i64 x]]) (by simp [execOp, hop, go_sem, ev e0, ev e4]) ((hcall W hB).mono ?_)
  rintro e w' ⟨rfl, h3⟩
  exact ⟨_, rfl, rfl, h3⟩
set_option maxHeartbeats 1000000 in
theorem ra14_op6 (o5 : a.eval (.tmp 5) = .int .i64 (zz : Int)) (ho : ra14Reg[6]? = some o) : ra14Ok p A n c A' n' c' g ln cl jj kk zz bt cn x cb Q a W 6 o := by
  have hop := op_at ho (·.op) (x := Op.move (Operand.tmp 5)) (by kernel_rfl)
  have hgd := op_at ho (·.guard) (x := none) (by kernel_rfl)
  refine ⟨fun j b h => (by rw [hgd] at h; cases h), ?_⟩
  exact specs_value (R := fun v W => ra14S p A n c A' n' c' g ln cl jj kk zz bt cn x cb 6 v W) (v := .int .i64 (zz : Int)) (by simp [execOp, hop, go_sem, ev o5]) rfl (Ext.refl W)
set_option maxHeartbeats 1000000 in
theorem ra14_op7 (hand : bits .and .i64 (bt : Int) (zz : Int) = ((bt &&& zz : Nat) : Int)) (haft : ∀ j, (o.after.any fun e => decide (e.on = j) && Region.binds .any e) = true → ra14S p A n c A' n' c' g ln cl jj kk zz bt cn x cb j (a.eval (.tmp (ra14D j))) W) (ho : ra14Reg[7]? = some o) : ra14Ok p A n c A' n' c' g ln cl jj kk zz bt cn x cb Q a W 7 o := by
  have hop := op_at ho (·.op) (x := Op.binOp BinOp.and 3 (Operand.tmp 71) (Operand.tmp 72) 3) (by kernel_rfl)
  have hgd := op_at ho (·.guard) (x := none) (by kernel_rfl)
  have e5 : ra14S p A n c A' n' c' g ln cl jj kk zz bt cn x cb 5 (a.eval (.tmp 71)) W := haft 5 (op_at ho (fun o => o.after.any fun e => decide (e.on = 5) && Region.binds .any e) (x := true) (by kernel_rfl))
  have e6 : a.eval (.tmp 72) = .int .i64 (zz : Int) := haft 6 (op_at ho (fun o => o.after.any fun e => decide (e.on = 6) && Region.binds .any e) (x := true) (by kernel_rfl))
  refine ⟨fun j b h => (by rw [hgd] at h; cases h), ?_⟩
  have e5' : a.eval (.tmp 71) = .int .i64 (bt : Int) := e5
  exact specs_value (R := fun v W => ra14S p A n c A' n' c' g ln cl jj kk zz bt cn x cb 7 v W) (v := .int .i64 ((bt &&& zz : Nat) : Int)) (by simp [execOp, hop, go_sem, ev e6, ev e5', hand]) rfl (Ext.refl W)
set_option maxHeartbeats 1000000 in
theorem ra14_op8 (hlist : ∀ W, Ext V W → Calls Try.prog 46 #[.int .i64 ((bt &&& zz : Nat) : Int)] W fun e w' => ∃ A9 c9, e = .returned (.slice A9 cn c9) ∧ Ext W w') (hB : Ext V W) (haft : ∀ j, (o.after.any fun e => decide (e.on = j) && Region.binds .any e) = true → ra14S p A n c A' n' c' g ln cl jj kk zz bt cn x cb j (a.eval (.tmp (ra14D j))) W) (ho : ra14Reg[8]? = some o) : ra14Ok p A n c A' n' c' g ln cl jj kk zz bt cn x cb Q a W 8 o := by
  have hop := op_at ho (·.op) (x := Op.call { callee := Callee.value (Operand.func 46), args := #[Operand.tmp 73], argTypes := #[3] }) (by kernel_rfl)
  have hgd := op_at ho (·.guard) (x := none) (by kernel_rfl)
  have e7 : a.eval (.tmp 73) = .int .i64 ((bt &&& zz : Nat) : Int) := haft 7 (op_at ho (fun o => o.after.any fun e => decide (e.on = 7) && Region.binds .any e) (x := true) (by kernel_rfl))
  refine ⟨fun j b h => (by rw [hgd] at h; cases h), ?_⟩
  refine specs_call (R := fun v W => ra14S p A n c A' n' c' g ln cl jj kk zz bt cn x cb 8 v W) (f := 46) (args := #[.int .i64 ((bt &&& zz : Nat) : Int)]) (by simp [execOp, hop, go_sem, ev e7]) ((hlist W hB).mono ?_)
  rintro e w' ⟨A9, c9, rfl, h3⟩
  exact ⟨_, rfl, ⟨A9, c9, rfl⟩, h3⟩
set_option maxHeartbeats 1000000 in
theorem ra14_op9 (haft : ∀ j, (o.after.any fun e => decide (e.on = j) && Region.binds .any e) = true → ra14S p A n c A' n' c' g ln cl jj kk zz bt cn x cb j (a.eval (.tmp (ra14D j))) W) (ho : ra14Reg[9]? = some o) : ra14Ok p A n c A' n' c' g ln cl jj kk zz bt cn x cb Q a W 9 o := by
  have hop := op_at ho (·.op) (x := Op.call { callee := Callee.builtin Builtin.len, args := #[Operand.tmp 74], argTypes := #[30] }) (by kernel_rfl)
  have hgd := op_at ho (·.guard) (x := none) (by kernel_rfl)
  have e8 : ra14S p A n c A' n' c' g ln cl jj kk zz bt cn x cb 8 (a.eval (.tmp 74)) W := haft 8 (op_at ho (fun o => o.after.any fun e => decide (e.on = 8) && Region.binds .any e) (x := true) (by kernel_rfl))
  refine ⟨fun j b h => (by rw [hgd] at h; cases h), ?_⟩
  obtain ⟨A9, c9, hv⟩ := e8
  exact specs_value (R := fun v W => ra14S p A n c A' n' c' g ln cl jj kk zz bt cn x cb 9 v W) (v := .int .i64 (cn : Int)) (by simp [execOp, hop, go_sem, ev hv]) rfl (Ext.refl W)
set_option maxHeartbeats 1000000 in
theorem ra14_op10 (hcb : decide ((1 : Int) < (cn : Int)) = cb) (haft : ∀ j, (o.after.any fun e => decide (e.on = j) && Region.binds .any e) = true → ra14S p A n c A' n' c' g ln cl jj kk zz bt cn x cb j (a.eval (.tmp (ra14D j))) W) (ho : ra14Reg[10]? = some o) : ra14Ok p A n c A' n' c' g ln cl jj kk zz bt cn x cb Q a W 10 o := by
  have hop := op_at ho (·.op) (x := Op.binOp BinOp.gtr 3 (Operand.tmp 75) (Operand.const (Value.int IntKind.i64 1)) 3) (by kernel_rfl)
  have hgd := op_at ho (·.guard) (x := none) (by kernel_rfl)
  have e9 : a.eval (.tmp 75) = .int .i64 (cn : Int) := haft 9 (op_at ho (fun o => o.after.any fun e => decide (e.on = 9) && Region.binds .any e) (x := true) (by kernel_rfl))
  refine ⟨fun j b h => (by rw [hgd] at h; cases h), ?_⟩
  exact specs_value (R := fun v W => ra14S p A n c A' n' c' g ln cl jj kk zz bt cn x cb 10 v W) (v := .bool cb) (by simp [execOp, hop, go_sem, ev e9, ← hcb]) rfl (Ext.refl W)
set_option maxRecDepth 100000 in
set_option maxHeartbeats 4000000 in
/-- Region 14 of function 31. -/
theorem ra14_wp {id : Nat} (hlen : a.tmps.size = 77) (o2 : a.eval (.tmp 2) = .pointer (some ⟨p, 0, none⟩)) (o5 : a.eval (.tmp 5) = .int .i64 (zz : Int)) (o7 : a.eval (.tmp 7) = .slice (some ⟨g, 0, none⟩) ln cl) (o8 : a.eval (.tmp 8) = .int .i64 (jj : Int)) (q0 : ∀ W, Ext V W → W.cell? ⟨p, 0, none⟩ = some (.slice A n c)) (q1 : ∀ W, Ext V W → W.cell? ⟨p, 1, none⟩ = some (.slice A' n' c')) (hj : jj < ln) (c0 : ∀ W, Ext V W → W.cell? ⟨g, jj * 2, none⟩ = some (.int .i64 (kk : Int))) (c1 : ∀ W, Ext V W → W.cell? ⟨g, jj * 2 + 1, none⟩ = some (.int .i64 x)) (hcall : ∀ W, Ext V W → Calls Try.prog 59 #[.agg #[.slice A n c, .slice A' n' c'], .agg #[.int .i64 (kk : Int), .int .i64 x]] W fun e w' => e = .returned (.int .i64 (bt : Int)) ∧ Ext W w') (hand : bits .and .i64 (bt : Int) (zz : Int) = ((bt &&& zz : Nat) : Int)) (hlist : ∀ W, Ext V W → Calls Try.prog 46 #[.int .i64 ((bt &&& zz : Nat) : Int)] W fun e w' => ∃ A9 c9, e = .returned (.slice A9 cn c9) ∧ Ext W w') (hcb : decide ((1 : Int) < (cn : Int)) = cb) (K : (∀ W v5 v8, Ext V W → ra14S p A n c A' n' c' g ln cl jj kk zz bt cn x cb 5 v5 W → ra14S p A n c A' n' c' g ln cl jj kk zz bt cn x cb 8 v8 W → wpList Try.prog ra14Reg Q (ra14Reg.toList.drop 11) (puts a [(66, .agg #[.slice A n c, .slice A' n' c']), (67, .slice (some ⟨g, 0, none⟩) ln cl), (68, .int .i64 (jj : Int)), (69, .pointer (some ⟨g, jj * 2, none⟩)), (70, .agg #[.int .i64 (kk : Int), .int .i64 x]), (71, v5), (72, .int .i64 (zz : Int)), (73, .int .i64 ((bt &&& zz : Nat) : Int)), (74, v8), (75, .int .i64 (cn : Int)), (76, .bool cb)]) W)) : (Code.region id ra14Reg true).wp Try.prog Q a V := by
  refine wp_region_specs_free (ops := ra14Reg) 11 (ra14S p A n c A' n' c' g ln cl jj kk zz bt cn x cb) (Ext V) (by kernel_rfl) (by rw [hlen]; kernel_rfl) (by kernel_rfl) ⟨rfl, rfl, rfl, Nat.le_refl _, fun _ _ => rfl⟩ (fun _ _ h e => h.trans e) ra14S_ext ra14D (by kernel_rfl) ?_ ?_
  · intro i o hi ho a' W hB hsz hold haft
    match i, hi with
    | 0, _ => exact ra14_op0 ((hold 2 (by kernel_rfl)).trans o2) q0 q1 hB ho
    | 1, _ => exact ra14_op1 ((hold 7 (by kernel_rfl)).trans o7) ho
    | 2, _ => exact ra14_op2 ((hold 8 (by kernel_rfl)).trans o8) ho
    | 3, _ => exact ra14_op3 hj haft ho
    | 4, _ => exact ra14_op4 c0 c1 hB haft ho
    | 5, _ => exact ra14_op5 hcall hB haft ho
    | 6, _ => exact ra14_op6 ((hold 5 (by kernel_rfl)).trans o5) ho
    | 7, _ => exact ra14_op7 hand haft ho
    | 8, _ => exact ra14_op8 hlist hB haft ho
    | 9, _ => exact ra14_op9 haft ho
    | 10, _ => exact ra14_op10 hcb haft ho
    | m + 11, h => exact absurd h (by omega)
  · intro a1 W hB hsz hdf hold hS
    obtain ⟨v5, g5⟩ : ∃ v, v = a1.eval (.tmp 71) := ⟨_, rfl⟩
    obtain ⟨v8, g8⟩ : ∃ v, v = a1.eval (.tmp 74) := ⟨_, rfl⟩
    have hall : ∀ z, z ∈ ([(66, .agg #[.slice A n c, .slice A' n' c']), (67, .slice (some ⟨g, 0, none⟩) ln cl), (68, .int .i64 (jj : Int)), (69, .pointer (some ⟨g, jj * 2, none⟩)), (70, .agg #[.int .i64 (kk : Int), .int .i64 x]), (71, v5), (72, .int .i64 (zz : Int)), (73, .int .i64 ((bt &&& zz : Nat) : Int)), (74, v8), (75, .int .i64 (cn : Int)), (76, .bool cb)] : List (Tmp × Value)) → z.1 < a.tmps.size ∧ a1.eval (.tmp z.1) = z.2 := by
      intro z hz
      rw [hlen]
      simp only [List.mem_cons, List.not_mem_nil, or_false] at hz
      rcases hz with rfl | rfl | rfl | rfl | rfl | rfl | rfl | rfl | rfl | rfl | rfl
      · exact ⟨(show (66 : Nat) < 77 by omega), hS 0 (by omega)⟩
      · exact ⟨(show (67 : Nat) < 77 by omega), hS 1 (by omega)⟩
      · exact ⟨(show (68 : Nat) < 77 by omega), hS 2 (by omega)⟩
      · exact ⟨(show (69 : Nat) < 77 by omega), hS 3 (by omega)⟩
      · exact ⟨(show (70 : Nat) < 77 by omega), hS 4 (by omega)⟩
      · exact ⟨(show (71 : Nat) < 77 by omega), g5.symm⟩
      · exact ⟨(show (72 : Nat) < 77 by omega), hS 6 (by omega)⟩
      · exact ⟨(show (73 : Nat) < 77 by omega), hS 7 (by omega)⟩
      · exact ⟨(show (74 : Nat) < 77 by omega), g8.symm⟩
      · exact ⟨(show (75 : Nat) < 77 by omega), hS 9 (by omega)⟩
      · exact ⟨(show (76 : Nat) < 77 by omega), hS 10 (by omega)⟩
    have ha := act_puts hsz hdf hall (fun t ht => hold t (all_ne_of (l := [(66, .agg #[.slice A n c, .slice A' n' c']), (67, .slice (some ⟨g, 0, none⟩) ln cl), (68, .int .i64 (jj : Int)), (69, .pointer (some ⟨g, jj * 2, none⟩)), (70, .agg #[.int .i64 (kk : Int), .int .i64 x]), (71, v5), (72, .int .i64 (zz : Int)), (73, .int .i64 ((bt &&& zz : Nat) : Int)), (74, v8), (75, .int .i64 (cn : Int)), (76, .bool cb)]) (by kernel_rfl) ht))
    rw [ha]
    exact K W v5 v8 hB (by rw [g5]; exact hS 5 (by omega)) (by rw [g8]; exact hS 8 (by omega))
end
end Go.Proofs.Ytchmdkdiilaejaa

/- CheckApart of the reference, walked. -/
namespace Go.Proofs.Ytchmdkdiilaejaa
open Go.RowKit Go.Shelf
attribute [local irreducible] bitCells fitCells Z94 fitOf

theorem num_get {w : World} {A : Option Addr} {xs : List Int} (hh : Held w w.heap.size 1 encI A xs) {k : Nat} (hk : k < xs.length) : ∃ b off, A = some ⟨b, off, none⟩ ∧ b < w.heap.size ∧ ∀ j (hj : j < xs.length), w.cell? ⟨b, off + j, none⟩ = some (.int .i64 xs[j]) := by
  rcases hh with h | ⟨b, off, rfl, hlt', hc⟩
  · simp [h] at hk
  · refine ⟨b, off, rfl, hlt', fun j hj => ?_⟩
    have h2 := hc j xs[j] (List.getElem?_eq_getElem hj) 0 _ rfl
    simpa using h2

set_option maxRecDepth 100000 in
set_option maxHeartbeats 8000000 in
theorem refApart_any {A : Option Addr} {n c : Nat} {A' : Option Addr} {n' c' : Nat} {cs ms : List (Int × Int)} {w : World} (hb : IsSheet w w.heap.size A n c A' n' c' cs ms)
    (A3 : Option Addr) (m c3 : Nat) (xs : List Int) (hm : m = xs.length) (hm9 : m ≤ 9223372036854775807) (hh : Held w w.heap.size 1 encI A3 xs) :
    Calls Try.prog 31 #[.agg #[.slice A n c, .slice A' n' c'], .slice A3 m c3] w fun e w' => e = .returned (.int .i64 (apartErr cs ms xs)) ∧ Ext w w' := by
  have hX0 := SheetAt.new hb
  have hE0 : Ext w (w.alloc (.cells #[.slice A n c, .slice A' n' c'] 25)) := ext_alloc w _
  obtain ⟨ans, hans⟩ : ∃ ans, apartErr cs ms xs = ans := ⟨_, rfl⟩
  have HA := Lib.hid hans
  rw [hans]
  have HN := Lib.hid (And.intro hb.ncs (And.intro hb.nms hm))
  have hh0 := (hh.kept hE0 (Nat.le_refl _)).wider hE0.size
  clear hb hm hans hh
  go_enter Try.func31, Try.ntmps31
  go_upto_region 1 with fail
  obtain ⟨w0, hw0⟩ : ∃ w0, w.alloc (.cells #[.slice A n c, .slice A' n' c'] 25) = w0 := ⟨_, rfl⟩
  rw [hw0] at hX0 hE0 hh0 ⊢
  obtain ⟨p, hp⟩ : ∃ p, w.heap.size = p := ⟨_, rfl⟩
  have HE := Lib.hid hE0
  rw [hp] at hX0 ⊢
  have HX := Lib.hid hX0
  have HH := Lib.hid hh0
  obtain ⟨q0, q1⟩ := hX0.cells
  have h24 := refSheet_any hX0.sheet
  obtain ⟨r, hr⟩ : ∃ r, sheetErr cs ms = r := ⟨_, rfl⟩
  have HR := Lib.hid hr
  rw [hr] at h24
  clear hw0 hE0 hp hX0 hh0 hr
  go_wp2_with (fail)
  refine h24.mono ?_
  rintro e w1 ⟨rfl, e1⟩
  have HE := Lib.hid (HE.out.trans e1)
  have HX := Lib.hid (HX.out.ext e1)
  have HH := Lib.hid (Held.ext HH.out e1)
  clear e1 h24 q0 q1
  obtain ⟨q0, q1⟩ := HX.out.cells
  by_cases h0 : r = 0
  · subst h0
    have h0 := HR.out
    have hsm := sheet_ok h0
    have hn12 : n' ≤ 12 := by have := HN.out.2.1; have := hsm.1; omega
    have hans : ans = if rising n' 0 xs = true then if apartB cs ms (xs.map Int.toNat) = true then 0 else 14 else 3 := by
      rw [← HA.out]
      unfold apartErr
      rw [if_pos h0, HN.out.2.1]
    have HA := Lib.hid hans
    clear hans h0 hsm
    go_wp2_with fail
    go_loopw [5, 6] (fun o i wr => ∃ (k : Nat) (f : Int), k ≤ m ∧ i = .int .i64 k ∧ o = .int .i64 ((marksNo ((xs.take k).map Int.toNat) : Nat) : Int) ∧ Hid (Ext w1 wr) ∧ Hid (rising n' 0 xs = rising n' f (xs.drop k)) ∧ Hid ((∀ j, j ∈ (xs.take k).map Int.toNat → j < n') ∧ (k = 0 → f = 0) ∧ ∀ (h : 0 < k) (hk : k - 1 < xs.length), f = xs[k - 1] + 1 ∧ 0 ≤ xs[k - 1])) (fun _ i _ => m - (intOf i).toNat)
    case atStart => exact ⟨0, 0, Nat.zero_le _, rfl, rfl, Lib.hid (Ext.refl _), Lib.hid rfl, Lib.hid ⟨fun j hj => by simp at hj, fun _ => rfl, fun h => absurd h (by omega)⟩⟩
    case round =>
      obtain ⟨k, f, hk, rfl, rfl, hE, hR, hF⟩ := hrel
      have hX := HX.out.ext hE.out
      obtain ⟨s0, s1⟩ := hX.cells
      by_cases hlt : k < m
      · have hltz : (k : Int) < (m : Int) := by omega
        have hkl : k < xs.length := by rw [← HN.out.2.2]; exact hlt
        obtain ⟨b, off, rfl, hbl, hc⟩ := num_get (Held.ext HH.out hE.out) hkl
        have d0 := hc k hkl
        have hat := rising_at n' f xs k hkl
        have hrs := hR.out
        rw [hat] at hrs
        have hprev : ∀ (h : 0 < k), wr.cell? ⟨b, off + (k - 1), none⟩ = some (.int .i64 (xs[k - 1]'(by omega))) ∧ f = (xs[k - 1]'(by omega)) + 1 ∧ 0 ≤ (xs[k - 1]'(by omega)) := fun h => ⟨hc (k - 1) (by omega), hF.out.2.2 h (by omega)⟩
        have hf0 := hF.out.2.1
        have hsu : (xs.take (k + 1)).map Int.toNat = (xs.take k).map Int.toNat ++ [(xs[k]).toNat] := by
          rw [List.take_succ_eq_append_getElem hkl, List.map_append]
          rfl
        obtain ⟨x, hx⟩ : ∃ x, xs[k] = x := ⟨_, rfl⟩
        rw [hx] at d0 hrs hsu
        have HRS := Lib.hid hrs
        have HSU := Lib.hid hsu
        have HXK := Lib.hid hx
        have HC := Lib.hid hprev
        have HF0 := Lib.hid hf0
        clear hat hrs hsu hx hprev hf0 hc hX hR
        by_cases c1 : x < 0
        · have ha : ans = 3 := by
            rw [HA.out, HRS.out, if_neg]
            rw [decide_eq_false, Bool.false_and, Bool.false_and]
            · decide
            · by_cases hk0 : 0 < k
              · have := HC.out hk0; omega
              · have := HF0.out (by omega); omega
          subst ha
          go_upto_region 7 with fail
          go_quiet (fail)
          go_wp2
          go_ret
          exact ⟨rfl, bdrewN (HE.out.trans hE.out) _⟩
        · by_cases c2 : (n' : Int) ≤ x
          · have ha : ans = 3 := by
              rw [HA.out, HRS.out, if_neg]
              rw [decide_eq_false (p := x < (n' : Int)) (by omega), Bool.and_false, Bool.false_and]
              decide
            subst ha
            go_upto_region 7 with fail
            go_quiet (fail)
            go_wp2
            go_ret
            exact ⟨rfl, bdrewN (HE.out.trans hE.out) _⟩
          · -- the shift
            obtain ⟨xn, hxn⟩ : ∃ xn : Nat, x = (xn : Int) := ⟨x.toNat, by omega⟩
            subst hxn
            have hx12 : xn < 12 := by omega
            have hp12 : 2 ^ xn < 4096 := (Nat.pow_lt_pow_right (by decide) hx12 : 2 ^ xn < 2 ^ 12)
            have hb4 : marksNo ((xs.take k).map Int.toNat) < 4096 := Nat.lt_of_lt_of_le (marksNo_lt hF.out.1) (Nat.pow_le_pow_right (by decide) hn12 : 2 ^ n' ≤ 2 ^ 12)
            have hsn := marksNo_snoc ((xs.take k).map Int.toNat) xn
            have hsu := HSU.out
            rw [Int.toNat_natCast] at hsu
            rw [← hsu] at hsn
            have hin : ∀ j, j ∈ (xs.take (k + 1)).map Int.toNat → j < n' := fun j hj => by
              rw [hsu] at hj
              rcases List.mem_append.1 hj with hj | hj
              · exact hF.out.1 j hj
              · rw [List.mem_singleton.1 hj]; omega
            generalize marksNo ((xs.take k).map Int.toNat) = o at hsn hb4 ⊢
            have hbo := bits_or o (2 ^ xn) (by omega) (by omega)
            have hwp := wrap_pow xn (by omega)
            have HBO := Lib.hid hbo
            have HSN := Lib.hid hsn
            have HIN := Lib.hid hin
            have HWP := Lib.hid hwp
            clear hsu hbo hsn hin hF hwp
            by_cases hk0 : 0 < k
            · obtain ⟨x0, hfr, hpv⟩ := HC.out hk0
              obtain ⟨q, rfl⟩ : ∃ q, k = q + 1 := ⟨k - 1, by omega⟩
              simp only [Nat.add_sub_cancel] at x0 hfr hpv
              obtain ⟨y, hy⟩ : ∃ y, xs[q]'(by omega) = y := ⟨_, rfl⟩
              rw [hy] at x0 hfr hpv
              have w1 : IntKind.i64.wrap (((q + 1 : Nat) : Int) - 1) = (q : Int) := by rw [show (((q + 1 : Nat) : Int) - 1) = (q : Int) from by omega]; exact IntWalk.i64_in _ (by omega)
              have w2 : IntKind.i64.wrap ((q : Int) + 1 - 1) = (q : Int) := by rw [show ((q : Int) + 1 - 1) = (q : Int) from by omega]; exact IntWalk.i64_in _ (by omega)
              have w3 : IntKind.i64.wrap (q : Int) = (q : Int) := IntWalk.i64_in _ (by omega)
              have hqz : (0 : Int) < (q : Int) + 1 := by omega
              have hqz2 : (0 : Int) < ((q + 1 : Nat) : Int) := by omega
              have hqn : (q : Int) < (m : Int) := by omega
              have hqn2 : q < m := by omega
              have HFR := Lib.hid hfr
              clear hy hfr
              by_cases c5 : (xn : Int) ≤ y
              · have ha : ans = 3 := by
                  rw [HA.out, HRS.out, if_neg]
                  rw [decide_eq_false (p := f ≤ (xn : Int)) (by have := HFR.out; omega), Bool.false_and, Bool.false_and]
                  decide
                subst ha
                go_upto_region 7 with fail
                go_quiet (fail)
                go_wp2
                go_ret
                exact ⟨rfl, bdrewN (HE.out.trans hE.out) _⟩
              · go_upto_region 7 with fail
                go_quiet (fail)
                go_wp2
                go_roundw
                case measure => simp [intOf]; omega
                case rel =>
                  refine ⟨(q + 1) + 1, (xn : Int) + 1, by omega, by go_num, ?_, Lib.hid (bdrewN hE.out _), Lib.hid ?_, Lib.hid ⟨HIN.out, fun h => absurd h (by omega), fun h hk => ⟨by have := HXK.out; simp only [Nat.add_sub_cancel]; omega, by have := HXK.out; simp only [Nat.add_sub_cancel]; omega⟩⟩⟩
                  · rw [HSN.out, ← HBO.out]
                    congr 2
                  · rw [HRS.out, decide_eq_true (p := f ≤ (xn : Int)) (by have := HFR.out; omega), decide_eq_true (p := (xn : Int) < (n' : Int)) (by omega), Bool.true_and, Bool.true_and]
            · have hkz : ¬ (0 : Int) < (k : Int) := by omega
              have hfr := HF0.out (by omega)
              have HFR := Lib.hid hfr
              clear hfr
              go_upto_region 7 with fail
              go_quiet (fail)
              go_wp2
              go_roundw
              case measure => simp [intOf]; omega
              case rel =>
                refine ⟨k + 1, (xn : Int) + 1, by omega, by go_num, ?_, Lib.hid (bdrewN hE.out _), Lib.hid ?_, Lib.hid ⟨HIN.out, fun h => absurd h (by omega), fun h hk => ⟨by have := HXK.out; simp only [Nat.add_sub_cancel]; omega, by have := HXK.out; simp only [Nat.add_sub_cancel]; omega⟩⟩⟩
                · rw [HSN.out, ← HBO.out]
                  congr 2
                · rw [HRS.out, decide_eq_true (p := f ≤ (xn : Int)) (by have := HFR.out; omega), decide_eq_true (p := (xn : Int) < (n' : Int)) (by omega), Bool.true_and, Bool.true_and]
      · have hltz : ¬ (k : Int) < (m : Int) := by omega
        obtain rfl : k = xs.length := by have := HN.out.2.2; omega
        have hris : rising n' 0 xs = true := by
          rw [hR.out, List.drop_of_length_le (Nat.le_refl _)]
          rfl
        have hans := HA.out
        rw [if_pos hris] at hans
        obtain ⟨hsrt, hlt12⟩ := rising_sorted (Int.le_refl 0) hris
        obtain ⟨js, hjs⟩ : ∃ js, xs.map Int.toNat = js := ⟨_, rfl⟩
        rw [List.take_length]
        rw [hjs] at hans hsrt hlt12 ⊢
        have HA2 := Lib.hid hans
        have HJ := Lib.hid (And.intro (sorted_nodup hsrt) hlt12)
        have hz4 : marksNo js < 4096 := Nat.lt_of_lt_of_le (marksNo_lt hlt12) (Nat.pow_le_pow_right (by decide) hn12 : 2 ^ n' ≤ 2 ^ 12)
        obtain ⟨zz, hzz⟩ : ∃ zz, marksNo js = zz := ⟨_, rfl⟩
        rw [hzz] at hz4 ⊢
        have HZ := Lib.hid hzz
        have h48 := refRows_any hX.sheet HR.out
        have HX := Lib.hid hX
        have HE := Lib.hid (HE.out.trans hE.out)
        clear hans hsrt hlt12 hjs hris hzz hF hR hX hE HA
        go_wp2_with (fail)
        refine h48.mono ?_
        rintro e w5 ⟨v, rfl, e5, hv⟩
        obtain ⟨A5, c5, hv2⟩ := owns_slice hv
        subst hv2
        have HX := Lib.hid (HX.out.ext e5)
        have HE := Lib.hid (HE.out.trans e5)
        obtain ⟨ls, hls⟩ : ∃ ls, fitsOf cs ms = ls := ⟨_, rfl⟩
        have hfew := fits_few HR.out
        rw [hls] at hv hfew ⊢
        have HLS := Lib.hid hls
        have HV := Lib.hid hv
        clear s0 s1 e5 h48 hv hls
        go_wp2_with (fail)
        go_loopw [8] (fun i wr => ∃ j : Nat, j ≤ ls.length ∧ i = .int .i64 j ∧ Hid (Ext w5 wr) ∧ Hid (∀ t (ht : t < ls.length), t < j → crowded (hadB cs ms ls[t].1 ls[t].2) js = false)) (fun i _ => ls.length - (intOf i).toNat)
        case atStart => exact ⟨0, Nat.zero_le _, rfl, Lib.hid (Ext.refl _), Lib.hid fun t _ h => absurd h (by omega)⟩
        case round =>
          obtain ⟨j, hj, rfl, hE, hD⟩ := hrel
          by_cases hjl : j < ls.length
          · have hjz : (j : Int) < (ls.length : Int) := by omega
            obtain ⟨g, rfl, hg, c0, c1⟩ := pair_at (owns_ext HV.out hE.out) hjl
            have hmem : ls[j] ∈ fitsOf cs ms := by rw [HLS.out]; exact List.getElem_mem hjl
            obtain ⟨m1, m2, m3, m4⟩ := fits_mem HR.out hmem
            have hn4 : noOf cs ms ls[j] < 4096 := setNo_lt _
            have h59 := fun (W : World) (hW : Ext wr W) => bits_any ((HX.out.ext hE.out).ext hW).sheet HR.out ls[j].1 m1 ls[j].2
            rw [m3] at h59
            have hcb := crowd_bits (cs := cs) (ms := ms) (sheet_ok HR.out).1.2.2 ls[j] HJ.out.1 (fun i hi => by have := HJ.out.2 i hi; have := HN.out.2.1; omega)
            rw [HZ.out] at hcb
            obtain ⟨x1, x2, hx⟩ : ∃ x1 x2, ls[j] = (x1, x2) := ⟨_, _, rfl⟩
            have hcr : crowded (hadB cs ms ls[j].1 ls[j].2) js = decide (1 < (js.filter (hadB cs ms ls[j].1 ls[j].2)).length) := rfl
            generalize hbt : noOf cs ms ls[j] = bt at h59 hcb hn4
            have hand4 : bt &&& zz < 4096 := Nat.lt_of_le_of_lt Nat.and_le_left hn4
            have h46 := fun W => list_any (bt &&& zz) hand4 W
            rw [← hcb] at hcr
            obtain ⟨cn, hcn⟩ : ∃ cn, (numsTo (fun i => (bt &&& zz).testBit i) 12).length = cn := ⟨_, rfl⟩
            have hlist : ∀ W, Ext wr W → Calls Try.prog 46 #[.int .i64 ((bt &&& zz : Nat) : Int)] W fun e w' => ∃ A9 c9, e = .returned (.slice A9 cn c9) ∧ Ext W w' := fun W _ => (h46 W).mono fun e w' ⟨v, he, hw, hM⟩ => by
              obtain ⟨A9, c9, rfl⟩ := made_slice hM
              rw [hcn] at he
              exact ⟨A9, c9, he, hw⟩
            rw [hcn] at hcr
            have hand := bits_and bt zz (by omega) (by omega)
            rw [hx] at c0 c1 h59
            dsimp only at c0 c1 h59
            have hX3 := HX.out.ext hE.out
            have H59 := Lib.hid h59
            have HL := Lib.hid hlist
            have HCR := Lib.hid hcr
            have hcbb : decide ((1 : Int) < (cn : Int)) = crowded (hadB cs ms ls[j].1 ls[j].2) js := by
              rw [hcr]
              by_cases h : 1 < cn
              · rw [decide_eq_true h, decide_eq_true (by omega)]
              · rw [decide_eq_false h, decide_eq_false (by omega)]
            obtain ⟨cb, hcb2⟩ : ∃ cb, crowded (hadB cs ms ls[j].1 ls[j].2) js = cb := ⟨_, rfl⟩
            rw [hcb2] at hcbb
            have HCB := Lib.hid hcb2
            clear h59 m1 m2 m3 m4 hcb hcn hlist h46 hcr hcb2 hbt
            go_upto_region 14 with fail
            refine ra14_wp (p := p) (A := A) (n := n) (c := c) (A' := A') (n' := n') (c' := c') (g := g) (ln := ls.length) (cl := c5) (jj := j) (kk := x1) (zz := zz) (bt := bt) (cn := cn) (x := x2) (cb := cb) rfl rfl rfl rfl rfl
              (fun W hW => (hX3.ext hW).cells.1) (fun W hW => (hX3.ext hW).cells.2) hjl (fun W hW => (hW.cell (p := ⟨g, j * 2, none⟩) hg).trans c0) (fun W hW => (hW.cell (p := ⟨g, j * 2 + 1, none⟩) hg).trans c1) (fun W hW => H59.out W hW) hand (fun W hW => HL.out W hW) hcbb ?_
            intro W v5 v8 hW _ _
            have hdr : ra14Reg.toList.drop 11 = [] := List.drop_eq_nil_of_le (by rw [Array.length_toList]; exact Nat.le_of_eq (by kernel_rfl))
            rw [hdr]
            simp only [wpList, puts, List.foldl_cons, List.foldl_nil, Act.put, List.setIfInBounds_toArray, List.set_cons_succ, List.set_cons_zero]
            have HW := Lib.hid (hE.out.trans hW)
            clear hX3 hand hW c0 c1 hE hdr hcbb
            cases cb with
            | true =>
              have ha : ans = 14 := by
                rw [HA2.out, if_neg]
                unfold apartB
                rw [HLS.out]
                intro hall
                rw [List.all_eq_true] at hall
                have := hall _ (List.getElem_mem hjl)
                rw [HCB.out] at this
                cases this
              subst ha
              go_wp2
              go_ret
              exact ⟨rfl, HE.out.trans HW.out⟩
            | false =>
              go_wp2
              go_roundw
              case measure => simp [intOf]; omega
              case rel =>
                refine ⟨j + 1, by omega, by go_num, HW, Lib.hid fun t ht h => ?_⟩
                by_cases e : t = j
                · subst e; exact HCB.out
                · exact hD.out t ht (by omega)
          · have hjz : ¬ (j : Int) < (ls.length : Int) := by omega
            obtain rfl : j = ls.length := by omega
            have ha : ans = 0 := by
              rw [HA2.out, if_pos]
              unfold apartB
              rw [HLS.out, List.all_eq_true]
              intro x hx
              obtain ⟨t, ht, rfl⟩ := List.getElem_of_mem hx
              rw [hD.out t ht ht]
              rfl
            subst ha
            go_wp2
            go_ret
            exact ⟨rfl, HE.out.trans hE.out⟩
  · have hne : (r == 0) = false := by simpa using h0
    have hans : ans = r := by
      rw [← HA.out, ← HR.out]
      unfold apartErr
      rw [if_neg (by rw [HR.out]; exact h0)]
    subst hans
    have h24 := refSheet_any HX.out.sheet
    rw [HR.out] at h24
    go_wp2_with fail
    refine h24.mono ?_
    rintro e w2 ⟨rfl, e2⟩
    have HE := Lib.hid (HE.out.trans e2)
    clear e2 h24
    go_wp2
    go_ret
    exact ⟨rfl, HE.out⟩
end Go.Proofs.Ytchmdkdiilaejaa

/- CombProved: its drawn region; what Best and Apart hand over. -/
namespace Go.Proofs.Ytchmdkdiilaejaa
open Go.RowKit Go.Shelf
attribute [local irreducible] bitCells fitCells Z94 fitOf

theorem encRw_int (x : Rw) : encRw x = encS (rwInt x) := rfl
theorem flat_rwInt (r : List Rw) : r.flatMap encRw = (r.map rwInt).flatMap encS := by
  rw [List.flatMap_map]
  rfl
/-- What Best hands over. -/
theorem post_best {cs ms : List (Int × Int)} {w w' : World} {e : Ending} (h : Ext w w' ∧ ((wholeErr cs ms ≠ 0 ∧ e = .returned (.tuple #[.slice none 0 0, .int .i64 (wholeErr cs ms)])) ∨
      (wholeErr cs ms = 0 ∧ ∃ g, e = .returned (.tuple #[.slice (some ⟨g, 0, none⟩) (bestRows cs ms).length (bestRows cs ms).length, .int .i64 0]) ∧ w.heap.size ≤ g ∧ w'.heap[g]? = some (.cells ((bestRows cs ms).flatMap encRw).toArray 27 (0, 0))))) :
    Ext w w' ∧ ∃ A m c, e = .returned (.tuple #[.slice A m c, .int .i64 (wholeErr cs ms)]) ∧ m = (if wholeErr cs ms = 0 then (bestRows cs ms).map rwInt else []).length ∧ m ≤ 12 ∧ Held w' w'.heap.size 2 encS A (if wholeErr cs ms = 0 then (bestRows cs ms).map rwInt else []) := by
  obtain ⟨hE, ⟨hne, rfl⟩ | ⟨h0, g, rfl, _, hr⟩⟩ := h
  · rw [if_neg hne]
    exact ⟨hE, none, 0, 0, rfl, rfl, by omega, .inl rfl⟩
  · rw [if_pos h0, h0]
    have hf := best_few h0
    have hm := (sheet_ok (best_is h0).1).1.2.2
    refine ⟨hE, _, _, _, rfl, (List.length_map _).symm, by omega, held_row hr ?_⟩
    rw [flat_rwInt]
theorem nums_of_nats {w : World} {B : Nat} {A : Option Addr} {js : List Nat} (h : Held w B 1 encN A js) : Held w B 1 encI A (js.map fun j : Nat => (j : Int)) := by
  rcases h with rfl | ⟨b, off, rfl, hlt, hc⟩
  · exact .inl rfl
  · refine .inr ⟨b, off, rfl, hlt, fun j y hy i v hv => ?_⟩
    rw [List.getElem?_map] at hy
    obtain ⟨x, hxx, rfl⟩ := Option.map_eq_some_iff.1 hy
    exact hc j x hxx i v hv
/-- What Apart hands over. -/
theorem post_apart {cs ms : List (Int × Int)} {w w' : World} {e : Ending} (h0 : sheetErr cs ms = 0) (h : Ext w w' ∧ ∃ v, e = .returned (.tuple #[v, .int .i64 (sheetErr cs ms)]) ∧ LsAt (if sheetErr cs ms = 0 then apartTo cs ms ms.length else []) v w') :
    Ext w w' ∧ ∃ A m c, e = .returned (.tuple #[.slice A m c, .int .i64 0]) ∧ m = (apartTo cs ms ms.length).length ∧ m ≤ 12 ∧ Held w' w'.heap.size 1 encI A ((apartTo cs ms ms.length).map fun j : Nat => (j : Int)) := by
  obtain ⟨hE, v, rfl, hv⟩ := h
  rw [if_pos h0] at hv
  obtain ⟨A, c, rfl, _, _, hh⟩ := hv
  rw [h0]
  refine ⟨hE, A, _, c, rfl, rfl, ?_, nums_of_nats hh⟩
  have := (apartTo_ok cs ms ms.length).2.2.2
  have := (sheet_ok h0).1.2.2
  omega
theorem rising_cast {n : Nat} : ∀ {js : List Nat} {f : Nat}, js.Pairwise (· < ·) → (∀ j, j ∈ js → f ≤ j ∧ j < n) → rising n (f : Int) (js.map fun j : Nat => (j : Int)) = true
  | [], _, _, _ => rfl
  | j :: js, f, h, hl => by
    obtain ⟨p1, p2⟩ := List.pairwise_cons.1 h
    have hj := hl j (by simp)
    have := rising_cast (n := n) (js := js) (f := j + 1) p2 fun i hi => ⟨p1 i hi, (hl i (by simp [hi])).2⟩
    rw [List.map_cons, rising, decide_eq_true (show (f : Int) ≤ (j : Int) by omega), decide_eq_true (show (j : Int) < (n : Int) by omega), Bool.true_and, Bool.true_and]
    exact this
theorem toNat_cast (js : List Nat) : (js.map fun j : Nat => (j : Int)).map Int.toNat = js := by
  rw [List.map_map]
  conv => rhs; rw [← List.map_id js]
  exact List.map_congr_left fun j _ => by simp
/-- The marks that Apart returns are apart, and no fewer than others. -/
theorem apart_good {cs ms : List (Int × Int)} (h0 : sheetErr cs ms = 0) : apartErr cs ms ((apartTo cs ms ms.length).map fun j : Nat => (j : Int)) = 0 := by
  obtain ⟨a1, a2, a3, _⟩ := apartTo_ok cs ms ms.length
  unfold apartErr
  have hr : rising ms.length 0 ((apartTo cs ms ms.length).map fun j : Nat => (j : Int)) = true := rising_cast (f := 0) a1 fun j hj => ⟨by omega, a2 j hj⟩
  rw [if_pos h0, if_pos hr, toNat_cast, if_pos a3]
theorem apart_ok {cs ms : List (Int × Int)} {xs : List Int} (h : apartErr cs ms xs = 0) : (xs.map Int.toNat).Pairwise (· < ·) ∧ (∀ j, j ∈ xs.map Int.toNat → j < ms.length) ∧ apartB cs ms (xs.map Int.toNat) = true := by
  unfold apartErr at h
  split at h
  · split at h
    · rename_i hr
      split at h
      · rename_i ha
        obtain ⟨h1, h2⟩ := rising_sorted (Int.le_refl 0) hr
        exact ⟨h1, h2, ha⟩
      · cases h
    · cases h
  · rename_i hn
    exact absurd h hn
theorem apart_most {cs ms : List (Int × Int)} {xs : List Int} (h : apartErr cs ms xs = 0) : xs.length ≤ (apartTo cs ms ms.length).length := by
  obtain ⟨h1, h2, h3⟩ := apart_ok h
  have := apartTo_most cs ms h1 h2 h3 ms.length (sorted_short h1 h2)
  simpa using this
theorem apart_few {cs ms : List (Int × Int)} (h : wholeErr cs ms = 0) : (apartTo cs ms ms.length).length ≤ (bestRows cs ms).length := by
  obtain ⟨a1, a2, a3, _⟩ := apartTo_ok cs ms ms.length
  exact apart_best h (sorted_nodup a1) a2 a3
theorem whole_cases {cs ms : List (Int × Int)} (h0 : sheetErr cs ms = 0) : wholeErr cs ms = 0 ∨ wholeErr cs ms = 19 := by
  unfold wholeErr
  rw [if_pos h0]
  split
  · exact .inl rfl
  · exact .inr rfl

/-- The slots of region 5 of function 7. -/
def pv5D (i : Nat) : Tmp := if i = 0 then 37 else if i = 1 then 38 else if i = 2 then 39 else if i = 3 then 40 else if i = 4 then 41 else if i = 5 then 42 else if i = 6 then 11 else 12
/-- What each operation yields. -/
def pv5S (_p : Nat) (A : Option Addr) (n c : Nat) (A' : Option Addr) (n' c' : Nat) (vr vm : Value) (G HH : Int) (ix : Nat) (v : Value) (_W : World) : Prop :=
  match ix with
  | 0 => v = .agg #[.slice A n c, .slice A' n' c']
  | 1 => v = vr
  | 2 => v = .int .i64 G
  | 3 => v = .agg #[.slice A n c, .slice A' n' c']
  | 4 => v = vm
  | 5 => v = .int .i64 HH
  | 6 => v = .int .i64 G
  | 7 => v = .int .i64 HH
  | _ => True
noncomputable def pv5Reg : Array Oper := (Try.f7.body.bind (regionOf · 5)).getD #[]
theorem pv5S_ext {p : Nat} {A : Option Addr} {n c : Nat} {A' : Option Addr} {n' c' : Nat} {vr vm : Value} {G HH : Int} : ∀ (i : Nat) (v : Value) (W W' : World), pv5S p A n c A' n' c' vr vm G HH i v W → Below W.heap.size W W' → pv5S p A n c A' n' c' vr vm G HH i v W' := by
  intro i v W W' h e
  match i with
  | 0 => exact h
  | 1 => exact h
  | 2 => exact h
  | 3 => exact h
  | 4 => exact h
  | 5 => exact h
  | 6 => exact h
  | 7 => exact h
  | k + 8 => exact trivial
def pv5Ok (p : Nat) (A : Option Addr) (n c : Nat) (A' : Option Addr) (n' c' : Nat) (vr vm : Value) (G HH : Int) (Q : Exit → Act → World → Prop) (a : Act) (W : World) (ix : Nat) (o : Oper) : Prop :=
  (∀ j b, o.guard = some (j, b) → a.eval (.tmp (pv5D j)) = .bool b) ∧ o.wp Try.prog a W (fun a'' W' => ∃ v, a'' = a.put o.dst v ∧ pv5S p A n c A' n' c' vr vm G HH ix v W' ∧ Below W.heap.size W W') Q
section
variable {p : Nat} {A : Option Addr} {n c : Nat} {A' : Option Addr} {n' c' : Nat} {vr vm : Value} {G HH : Int} {Q : Exit → Act → World → Prop} {a : Act} {V W : World} {o : Oper}
set_option maxHeartbeats 1000000 in
theorem pv5_op0 (o3 : a.eval (.tmp 3) = .pointer (some ⟨p, 0, none⟩)) (q0 : ∀ W, Ext V W → W.cell? ⟨p, 0, none⟩ = some (.slice A n c)) (q1 : ∀ W, Ext V W → W.cell? ⟨p, 1, none⟩ = some (.slice A' n' c')) (hB : Ext V W) (ho : pv5Reg[0]? = some o) : pv5Ok p A n c A' n' c' vr vm G HH Q a W 0 o := by
  have hop := op_at ho (·.op) (x := Op.load 25 (Operand.tmp 3)) (by kernel_rfl)
  have hgd := op_at ho (·.guard) (x := none) (by kernel_rfl)
  refine ⟨fun j b h => (by rw [hgd] at h; cases h), ?_⟩
  have q0' := q0 W hB
  have q1' := q1 W hB
  exact specs_value (R := fun v W => pv5S p A n c A' n' c' vr vm G HH 0 v W) (v := .agg #[.slice A n c, .slice A' n' c']) (by simp [execOp, hop, go_sem, ev o3, q0', q1']) rfl (Ext.refl W)
set_option maxHeartbeats 1000000 in
theorem pv5_op1 (o1 : a.eval (.tmp 1) = vr) (ho : pv5Reg[1]? = some o) : pv5Ok p A n c A' n' c' vr vm G HH Q a W 1 o := by
  have hop := op_at ho (·.op) (x := Op.move (Operand.tmp 1)) (by kernel_rfl)
  have hgd := op_at ho (·.guard) (x := none) (by kernel_rfl)
  refine ⟨fun j b h => (by rw [hgd] at h; cases h), ?_⟩
  exact specs_value (R := fun v W => pv5S p A n c A' n' c' vr vm G HH 1 v W) (v := vr) (by simp [execOp, hop, go_sem, ev o1]) rfl (Ext.refl W)
set_option maxHeartbeats 1000000 in
theorem pv5_op2 (h41 : ∀ W, Ext V W → Calls Try.prog 41 #[.agg #[.slice A n c, .slice A' n' c'], vr] W fun e w' => e = .returned (.int .i64 G) ∧ Ext W w') (hB : Ext V W) (haft : ∀ j, (o.after.any fun e => decide (e.on = j) && Region.binds .any e) = true → pv5S p A n c A' n' c' vr vm G HH j (a.eval (.tmp (pv5D j))) W) (ho : pv5Reg[2]? = some o) : pv5Ok p A n c A' n' c' vr vm G HH Q a W 2 o := by
  have hop := op_at ho (·.op) (x := Op.call { callee := Callee.value (Operand.func 41), args := #[Operand.tmp 37, Operand.tmp 38], argTypes := #[25, 54] }) (by kernel_rfl)
  have hgd := op_at ho (·.guard) (x := none) (by kernel_rfl)
  have e0 : a.eval (.tmp 37) = .agg #[.slice A n c, .slice A' n' c'] := haft 0 (op_at ho (fun o => o.after.any fun e => decide (e.on = 0) && Region.binds .any e) (x := true) (by kernel_rfl))
  have e1 : a.eval (.tmp 38) = vr := haft 1 (op_at ho (fun o => o.after.any fun e => decide (e.on = 1) && Region.binds .any e) (x := true) (by kernel_rfl))
  refine ⟨fun j b h => (by rw [hgd] at h; cases h), ?_⟩
  refine specs_call (R := fun v W => pv5S p A n c A' n' c' vr vm G HH 2 v W) (f := 41) (args := #[.agg #[.slice A n c, .slice A' n' c'], vr]) (by simp [execOp, hop, go_sem, ev e0, ev e1]) ((h41 W hB).mono ?_)
  rintro e w' ⟨rfl, h3⟩
  exact ⟨_, rfl, rfl, h3⟩
set_option maxHeartbeats 1000000 in
theorem pv5_op3 (o3 : a.eval (.tmp 3) = .pointer (some ⟨p, 0, none⟩)) (q0 : ∀ W, Ext V W → W.cell? ⟨p, 0, none⟩ = some (.slice A n c)) (q1 : ∀ W, Ext V W → W.cell? ⟨p, 1, none⟩ = some (.slice A' n' c')) (hB : Ext V W) (ho : pv5Reg[3]? = some o) : pv5Ok p A n c A' n' c' vr vm G HH Q a W 3 o := by
  have hop := op_at ho (·.op) (x := Op.load 25 (Operand.tmp 3)) (by kernel_rfl)
  have hgd := op_at ho (·.guard) (x := none) (by kernel_rfl)
  refine ⟨fun j b h => (by rw [hgd] at h; cases h), ?_⟩
  have q0' := q0 W hB
  have q1' := q1 W hB
  exact specs_value (R := fun v W => pv5S p A n c A' n' c' vr vm G HH 3 v W) (v := .agg #[.slice A n c, .slice A' n' c']) (by simp [execOp, hop, go_sem, ev o3, q0', q1']) rfl (Ext.refl W)
set_option maxHeartbeats 1000000 in
theorem pv5_op4 (o2 : a.eval (.tmp 2) = vm) (ho : pv5Reg[4]? = some o) : pv5Ok p A n c A' n' c' vr vm G HH Q a W 4 o := by
  have hop := op_at ho (·.op) (x := Op.move (Operand.tmp 2)) (by kernel_rfl)
  have hgd := op_at ho (·.guard) (x := none) (by kernel_rfl)
  refine ⟨fun j b h => (by rw [hgd] at h; cases h), ?_⟩
  exact specs_value (R := fun v W => pv5S p A n c A' n' c' vr vm G HH 4 v W) (v := vm) (by simp [execOp, hop, go_sem, ev o2]) rfl (Ext.refl W)
set_option maxHeartbeats 1000000 in
theorem pv5_op5 (h30 : ∀ W, Ext V W → Calls Try.prog 30 #[.agg #[.slice A n c, .slice A' n' c'], vm] W fun e w' => e = .returned (.int .i64 HH) ∧ Ext W w') (hB : Ext V W) (haft : ∀ j, (o.after.any fun e => decide (e.on = j) && Region.binds .any e) = true → pv5S p A n c A' n' c' vr vm G HH j (a.eval (.tmp (pv5D j))) W) (ho : pv5Reg[5]? = some o) : pv5Ok p A n c A' n' c' vr vm G HH Q a W 5 o := by
  have hop := op_at ho (·.op) (x := Op.call { callee := Callee.value (Operand.func 30), args := #[Operand.tmp 40, Operand.tmp 41], argTypes := #[25, 30] }) (by kernel_rfl)
  have hgd := op_at ho (·.guard) (x := none) (by kernel_rfl)
  have e3 : a.eval (.tmp 40) = .agg #[.slice A n c, .slice A' n' c'] := haft 3 (op_at ho (fun o => o.after.any fun e => decide (e.on = 3) && Region.binds .any e) (x := true) (by kernel_rfl))
  have e4 : a.eval (.tmp 41) = vm := haft 4 (op_at ho (fun o => o.after.any fun e => decide (e.on = 4) && Region.binds .any e) (x := true) (by kernel_rfl))
  refine ⟨fun j b h => (by rw [hgd] at h; cases h), ?_⟩
  refine specs_call (R := fun v W => pv5S p A n c A' n' c' vr vm G HH 5 v W) (f := 30) (args := #[.agg #[.slice A n c, .slice A' n' c'], vm]) (by simp [execOp, hop, go_sem, ev e3, ev e4]) ((h30 W hB).mono ?_)
  rintro e w' ⟨rfl, h3⟩
  exact ⟨_, rfl, rfl, h3⟩
set_option maxHeartbeats 1000000 in
theorem pv5_op6 (haft : ∀ j, (o.after.any fun e => decide (e.on = j) && Region.binds .any e) = true → pv5S p A n c A' n' c' vr vm G HH j (a.eval (.tmp (pv5D j))) W) (ho : pv5Reg[6]? = some o) : pv5Ok p A n c A' n' c' vr vm G HH Q a W 6 o := by
  have hop := op_at ho (·.op) (x := Op.assign (Operand.tmp 39)) (by kernel_rfl)
  have hgd := op_at ho (·.guard) (x := none) (by kernel_rfl)
  have e2 : pv5S p A n c A' n' c' vr vm G HH 2 (a.eval (.tmp 39)) W := haft 2 (op_at ho (fun o => o.after.any fun e => decide (e.on = 2) && Region.binds .any e) (x := true) (by kernel_rfl))
  refine ⟨fun j b h => (by rw [hgd] at h; cases h), ?_⟩
  have eR : a.eval (.tmp 39) = .int .i64 G := e2
  exact specs_value (R := fun v W => pv5S p A n c A' n' c' vr vm G HH 6 v W) (v := .int .i64 G) (by simp [execOp, hop, go_sem, ev eR]) rfl (Ext.refl W)
set_option maxHeartbeats 1000000 in
theorem pv5_op7 (haft : ∀ j, (o.after.any fun e => decide (e.on = j) && Region.binds .any e) = true → pv5S p A n c A' n' c' vr vm G HH j (a.eval (.tmp (pv5D j))) W) (ho : pv5Reg[7]? = some o) : pv5Ok p A n c A' n' c' vr vm G HH Q a W 7 o := by
  have hop := op_at ho (·.op) (x := Op.assign (Operand.tmp 42)) (by kernel_rfl)
  have hgd := op_at ho (·.guard) (x := none) (by kernel_rfl)
  have e5 : pv5S p A n c A' n' c' vr vm G HH 5 (a.eval (.tmp 42)) W := haft 5 (op_at ho (fun o => o.after.any fun e => decide (e.on = 5) && Region.binds .any e) (x := true) (by kernel_rfl))
  refine ⟨fun j b h => (by rw [hgd] at h; cases h), ?_⟩
  have eR : a.eval (.tmp 42) = .int .i64 HH := e5
  exact specs_value (R := fun v W => pv5S p A n c A' n' c' vr vm G HH 7 v W) (v := .int .i64 HH) (by simp [execOp, hop, go_sem, ev eR]) rfl (Ext.refl W)
set_option maxRecDepth 100000 in
set_option maxHeartbeats 4000000 in
/-- Region 5 of function 7. -/
theorem pv5_wp {id : Nat} (hlen : a.tmps.size = 121) (o1 : a.eval (.tmp 1) = vr) (o2 : a.eval (.tmp 2) = vm) (o3 : a.eval (.tmp 3) = .pointer (some ⟨p, 0, none⟩)) (q0 : ∀ W, Ext V W → W.cell? ⟨p, 0, none⟩ = some (.slice A n c)) (q1 : ∀ W, Ext V W → W.cell? ⟨p, 1, none⟩ = some (.slice A' n' c')) (h41 : ∀ W, Ext V W → Calls Try.prog 41 #[.agg #[.slice A n c, .slice A' n' c'], vr] W fun e w' => e = .returned (.int .i64 G) ∧ Ext W w') (h30 : ∀ W, Ext V W → Calls Try.prog 30 #[.agg #[.slice A n c, .slice A' n' c'], vm] W fun e w' => e = .returned (.int .i64 HH) ∧ Ext W w') (K : (∀ W v2 v5, Ext V W → pv5S p A n c A' n' c' vr vm G HH 2 v2 W → pv5S p A n c A' n' c' vr vm G HH 5 v5 W → wpList Try.prog pv5Reg Q (pv5Reg.toList.drop 8) (puts a [(37, .agg #[.slice A n c, .slice A' n' c']), (38, vr), (39, v2), (40, .agg #[.slice A n c, .slice A' n' c']), (41, vm), (42, v5), (11, .int .i64 G), (12, .int .i64 HH)]) W)) : (Code.region id pv5Reg true).wp Try.prog Q a V := by
  refine wp_region_specs_free (ops := pv5Reg) 8 (pv5S p A n c A' n' c' vr vm G HH) (Ext V) (by kernel_rfl) (by rw [hlen]; kernel_rfl) (by kernel_rfl) ⟨rfl, rfl, rfl, Nat.le_refl _, fun _ _ => rfl⟩ (fun _ _ h e => h.trans e) pv5S_ext pv5D (by kernel_rfl) ?_ ?_
  · intro i o hi ho a' W hB hsz hold haft
    match i, hi with
    | 0, _ => exact pv5_op0 ((hold 3 (by kernel_rfl)).trans o3) q0 q1 hB ho
    | 1, _ => exact pv5_op1 ((hold 1 (by kernel_rfl)).trans o1) ho
    | 2, _ => exact pv5_op2 h41 hB haft ho
    | 3, _ => exact pv5_op3 ((hold 3 (by kernel_rfl)).trans o3) q0 q1 hB ho
    | 4, _ => exact pv5_op4 ((hold 2 (by kernel_rfl)).trans o2) ho
    | 5, _ => exact pv5_op5 h30 hB haft ho
    | 6, _ => exact pv5_op6 haft ho
    | 7, _ => exact pv5_op7 haft ho
    | m + 8, h => exact absurd h (by omega)
  · intro a1 W hB hsz hdf hold hS
    obtain ⟨v2, g2⟩ : ∃ v, v = a1.eval (.tmp 39) := ⟨_, rfl⟩
    obtain ⟨v5, g5⟩ : ∃ v, v = a1.eval (.tmp 42) := ⟨_, rfl⟩
    have hall : ∀ z, z ∈ ([(37, .agg #[.slice A n c, .slice A' n' c']), (38, vr), (39, v2), (40, .agg #[.slice A n c, .slice A' n' c']), (41, vm), (42, v5), (11, .int .i64 G), (12, .int .i64 HH)] : List (Tmp × Value)) → z.1 < a.tmps.size ∧ a1.eval (.tmp z.1) = z.2 := by
      intro z hz
      rw [hlen]
      simp only [List.mem_cons, List.not_mem_nil, or_false] at hz
      rcases hz with rfl | rfl | rfl | rfl | rfl | rfl | rfl | rfl
      · exact ⟨(show (37 : Nat) < 121 by omega), hS 0 (by omega)⟩
      · exact ⟨(show (38 : Nat) < 121 by omega), hS 1 (by omega)⟩
      · exact ⟨(show (39 : Nat) < 121 by omega), g2.symm⟩
      · exact ⟨(show (40 : Nat) < 121 by omega), hS 3 (by omega)⟩
      · exact ⟨(show (41 : Nat) < 121 by omega), hS 4 (by omega)⟩
      · exact ⟨(show (42 : Nat) < 121 by omega), g5.symm⟩
      · exact ⟨(show (11 : Nat) < 121 by omega), hS 6 (by omega)⟩
      · exact ⟨(show (12 : Nat) < 121 by omega), hS 7 (by omega)⟩
    have ha := act_puts hsz hdf hall (fun t ht => hold t (all_ne_of (l := [(37, .agg #[.slice A n c, .slice A' n' c']), (38, vr), (39, v2), (40, .agg #[.slice A n c, .slice A' n' c']), (41, vm), (42, v5), (11, .int .i64 G), (12, .int .i64 HH)]) (by kernel_rfl) ht))
    rw [ha]
    exact K W v2 v5 hB (by rw [g2]; exact hS 2 (by omega)) (by rw [g5]; exact hS 5 (by omega))
end
end Go.Proofs.Ytchmdkdiilaejaa
