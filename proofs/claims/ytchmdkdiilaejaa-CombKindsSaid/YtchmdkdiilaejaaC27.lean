/- Texts of one package, joined: OpenSheet, OpenMore. -/
import Derived.Test.YtchmdkdiilaejaaC26
import Derived.ProofKit
import Derived.OpenShut
import Derived.Lib.SmallJoins
import Derived.Deep.Slices
/- A sheet, and a row, that come in as arguments: what their values are. -/
namespace Go.Proofs.Ytchmdkdiilaejaa
open Go.ChangeShapes Go.WideShapes Go.ChangeAt Go.RowKit Go.Deep Go.Joins

section
variable {H : Type} {enc : TypeId × Value → H} {w : World} {base : Nat} {held : Bool}

theorem held_of_slice {α : Type} [Inhabited α] {k : Nat} {el : α → List Value} {t e : TypeId} {fuel : Nat} {cs : List Value} {x : DataW H × List MemPlace} (ht : Try.prog.underlying t = some (.slice e)) (hk : Try.prog.cellsOf e = k) (hk0 : 0 < k)
    (one : ∀ (m : Nat) (cs' : List Value) (y : DataW H × List MemPlace), DataW.trod enc Try.prog w base (fun _ => true) held m e cs' = some y → ∃ z : α, cs' = el z)
    (h : DataW.trod enc Try.prog w base (fun _ => true) held fuel t cs = some x) :
    ∃ A n c, ∃ xs : List α, cs = [.slice A n c] ∧ n = xs.length ∧ n ≤ c ∧ c ≤ maxLen ∧ Held w w.heap.size k el A xs := by
  rcases open_slice ht h with ⟨rfl, _⟩ | ⟨a, len, cap, m, n, D, Pl, rfl, _, hl, hm, hmm, _, hx⟩
  · exact ⟨none, 0, 0, [], rfl, rfl, Nat.le_refl _, Nat.zero_le _, .inl rfl⟩
  · simp only [if_true] at hmm
    rw [hk] at hx
    obtain ⟨z, hz⟩ := choose_lt (n := len) (p := fun i z => w.cells? base (a.add (i * k)) k = some (el z)) (fun i hi => by
      obtain ⟨cs', h1, h2⟩ := hx i (by omega)
      obtain ⟨z, rfl⟩ := one _ _ _ h2
      exact ⟨z, h1⟩)
    refine ⟨some a, len, cap, (List.range len).map z, rfl, by simp, hl, hm, ?_⟩
    by_cases h0 : len = 0
    · left
      subst h0
      rfl
    · right
      obtain ⟨b, off, spot⟩ := a
      obtain ⟨_, hlen0, hc0⟩ := World.cells?_some (hz 0 (by omega))
      have hfirst := hc0 0 hk0
      obtain ⟨v0, hv0⟩ : ∃ v0, (el (z 0))[0]? = some v0 := ⟨_, List.getElem?_eq_getElem (by omega)⟩
      rw [hv0] at hfirst
      have hspot : spot = none := by simpa [Addr.add] using World.cell?_spot hfirst
      subst hspot
      refine ⟨b, off, rfl, ?_, fun j x hj i v hi => ?_⟩
      · have := World.block_lt_of_cell? w _ hfirst
        simpa [Addr.add] using this
      · rw [List.getElem?_map, Option.map_eq_some_iff] at hj
        obtain ⟨j', hj', rfl⟩ := hj
        obtain ⟨hjl, hj'⟩ := List.getElem?_eq_some_iff.1 hj'
        simp only [List.getElem_range] at hj'
        subst hj'
        rw [List.length_range] at hjl
        obtain ⟨_, hlenj, hcj⟩ := World.cells?_some (hz j hjl)
        have hik : i < k := by
          have := (List.getElem?_eq_some_iff.1 hi).1
          omega
        have := hcj i hik
        rw [hi] at this
        rw [Addr.add_lit, Addr.add_lit] at this
        exact this

set_option maxRecDepth 100000 in
theorem kind_of_trod {m : Nat} {cs' : List Value} {y : DataW H × List MemPlace} {spare : Nat → Bool} (h : DataW.trod enc Try.prog w base spare held m 65 cs' = some y) : ∃ z : Int × Int, cs' = encS z := by
  obtain ⟨y0, y1, n, _, hl, h0, h1⟩ := trod_struct2 Try.underlying65 h
  rw [show Try.prog.cellsOf 65 = 2 from by kernel_rfl] at hl
  match cs', hl with
  | [c0, c1], _ =>
    simp only [show Try.prog.cellsOf 2 = 1 from by kernel_rfl, show Try.prog.cellsOf 3 = 1 from by kernel_rfl, List.drop_zero, List.take_succ_cons, List.take_zero, List.drop_succ_cons] at h0 h1
    obtain ⟨a, ha, _, _⟩ := DataW.trod_int Try.underlying2 h0
    obtain ⟨b, hb, _, _⟩ := DataW.trod_int Try.underlying3 h1
    simp only [List.cons.injEq, and_true] at ha hb
    subst ha hb
    exact ⟨(a, b), rfl⟩
set_option maxRecDepth 100000 in
theorem range_of_trod {m : Nat} {cs' : List Value} {y : DataW H × List MemPlace} {spare : Nat → Bool} (h : DataW.trod enc Try.prog w base spare held m 75 cs' = some y) : ∃ z : Int × Int, cs' = encS z := by
  obtain ⟨y0, y1, n, _, hl, h0, h1⟩ := trod_struct2 Try.underlying75 h
  rw [show Try.prog.cellsOf 75 = 2 from by kernel_rfl] at hl
  match cs', hl with
  | [c0, c1], _ =>
    simp only [show Try.prog.cellsOf 2 = 1 from by kernel_rfl, List.drop_zero, List.take_succ_cons, List.take_zero, List.drop_succ_cons] at h0 h1
    obtain ⟨a, ha, _, _⟩ := DataW.trod_int Try.underlying2 h0
    obtain ⟨b, hb, _, _⟩ := DataW.trod_int Try.underlying2 h1
    simp only [List.cons.injEq, and_true] at ha hb
    subst ha hb
    exact ⟨(a, b), rfl⟩
set_option maxRecDepth 100000 in
theorem open_sheet {r : Reach} {b0 : Nat} {v : Value} {d : DataW H} {p : List MemPlace} (hv : Value.okWide Try.prog w r b0 25 v) (h : DataW.Trod enc Try.prog w base (fun _ => true) held 25 v d p) :
    ∃ A n c A' n' c' cs ms, v = .agg #[.slice A n c, .slice A' n' c'] ∧ IsSheet w w.heap.size A n c A' n' c' cs ms := by
  obtain ⟨c1, c2, y1, y2, m, rfl, _, _, h1, h2⟩ := open_agg2 Try.underlying25 (by kernel_rfl) (by kernel_rfl) hv h
  obtain ⟨A, n, c, cs, hA, hn, hc, hcm, hh⟩ := held_of_slice (el := encS) (k := 2) Try.underlying22 (by kernel_rfl) (by omega) (fun _ _ _ h => kind_of_trod h) h1
  obtain ⟨A', n', c', ms, hA', hn', hc', hcm', hh'⟩ := held_of_slice (el := encS) (k := 2) Try.underlying23 (by kernel_rfl) (by omega) (fun _ _ _ h => range_of_trod h) h2
  simp only [List.cons.injEq, and_true] at hA hA'
  subst hA hA'
  have hm : maxLen ≤ 9223372036854775807 := by unfold maxLen; omega
  exact ⟨A, n, c, A', n', c', cs, ms, rfl, hn, hn', by omega, by omega, hc, hc', hh, hh'⟩
set_option maxRecDepth 100000 in
theorem open_row {r : Reach} {b0 : Nat} {v : Value} {d : DataW H} {p : List MemPlace} (hv : Value.okWide Try.prog w r b0 27 v) (h : DataW.Trod enc Try.prog w base (fun _ => true) held 27 v d p) :
    ∃ y1 y2, v = .agg #[.int .i64 y1, .int .i64 y2] := by
  obtain ⟨c1, c2, y1, y2, m, rfl, _, _, h1, h2⟩ := open_agg2 Try.underlying27 (by kernel_rfl) (by kernel_rfl) hv h
  obtain ⟨a, ha, _, _⟩ := DataW.trod_int Try.underlying3 h1
  obtain ⟨b, hb, _, _⟩ := DataW.trod_int Try.underlying2 h2
  simp only [List.cons.injEq, and_true] at ha hb
  subst ha hb
  exact ⟨a, b, rfl⟩
end
end Go.Proofs.Ytchmdkdiilaejaa

/- Lists that come in as arguments; five arguments. -/
namespace Go.Proofs.Ytchmdkdiilaejaa
open Go.ChangeShapes Go.WideShapes Go.ChangeAt Go.RowKit Go.Deep Go.Joins

section
variable {H : Type} {enc : TypeId × Value → H} {w : World} {base : Nat} {held : Bool}

set_option maxRecDepth 100000 in
theorem open_pairs {t e : TypeId} (ht : Try.prog.underlying t = some (.slice e)) (hk : Try.prog.cellsOf e = 2) (one : ∀ (m : Nat) (cs' : List Value) (y : DataW H × List MemPlace), DataW.trod enc Try.prog w base (fun _ => true) held m e cs' = some y → ∃ z : Int × Int, cs' = encS z)
    {r : Reach} {b0 : Nat} {v : Value} {d : DataW H} {p : List MemPlace} (hv : Value.okWide Try.prog w r b0 t v) (h : DataW.Trod enc Try.prog w base (fun _ => true) held t v d p) :
    ∃ L k c, ∃ xs : List (Int × Int), v = .slice L k c ∧ k = xs.length ∧ k ≤ 9223372036854775807 ∧ k ≤ c ∧ Held w w.heap.size 2 encS L xs := by
  obtain ⟨a, len, cap, rfl⟩ := okWide_slice ht hv
  obtain ⟨fuel, hf⟩ := h
  obtain ⟨L, k, c, xs, hA, hn, hc, hcm, hh⟩ := held_of_slice (el := encS) (k := 2) ht hk (by omega) one hf
  have hm : maxLen ≤ 9223372036854775807 := by unfold maxLen; omega
  have e : [Value.slice a len cap] = [Value.slice L k c] := hA
  simp only [List.cons.injEq, and_true] at e
  exact ⟨L, k, c, xs, e, hn, by omega, hc, hh⟩
set_option maxRecDepth 100000 in
theorem open_ranges {r : Reach} {b0 : Nat} {v : Value} {d : DataW H} {p : List MemPlace} (hv : Value.okWide Try.prog w r b0 23 v) (h : DataW.Trod enc Try.prog w base (fun _ => true) held 23 v d p) :
    ∃ L k c, ∃ xs : List (Int × Int), v = .slice L k c ∧ k = xs.length ∧ k ≤ 9223372036854775807 ∧ k ≤ c ∧ Held w w.heap.size 2 encS L xs :=
  open_pairs Try.underlying23 (by kernel_rfl) (fun _ _ _ h => range_of_trod h) hv h
set_option maxRecDepth 100000 in
theorem row_of_trod {m : Nat} {cs' : List Value} {y : DataW H × List MemPlace} {spare : Nat → Bool} (h : DataW.trod enc Try.prog w base spare held m 27 cs' = some y) : ∃ z : Int × Int, cs' = encS z := by
  obtain ⟨y0, y1, n, _, hl, h0, h1⟩ := trod_struct2 Try.underlying27 h
  rw [show Try.prog.cellsOf 27 = 2 from by kernel_rfl] at hl
  match cs', hl with
  | [c0, c1], _ =>
    simp only [show Try.prog.cellsOf 2 = 1 from by kernel_rfl, show Try.prog.cellsOf 3 = 1 from by kernel_rfl, List.drop_zero, List.take_succ_cons, List.take_zero, List.drop_succ_cons] at h0 h1
    obtain ⟨a, ha, _, _⟩ := DataW.trod_int Try.underlying3 h0
    obtain ⟨b, hb, _, _⟩ := DataW.trod_int Try.underlying2 h1
    simp only [List.cons.injEq, and_true] at ha hb
    subst ha hb
    exact ⟨(a, b), rfl⟩
set_option maxRecDepth 100000 in
theorem open_rows {r : Reach} {b0 : Nat} {v : Value} {d : DataW H} {p : List MemPlace} (hv : Value.okWide Try.prog w r b0 54 v) (h : DataW.Trod enc Try.prog w base (fun _ => true) held 54 v d p) :
    ∃ L k c, ∃ xs : List (Int × Int), v = .slice L k c ∧ k = xs.length ∧ k ≤ 9223372036854775807 ∧ k ≤ c ∧ Held w w.heap.size 2 encS L xs :=
  open_pairs Try.underlying54 (by kernel_rfl) (fun _ _ _ h => row_of_trod h) hv h
set_option maxRecDepth 100000 in
theorem open_marks {r : Reach} {b0 : Nat} {v : Value} {d : DataW H} {p : List MemPlace} (hv : Value.okWide Try.prog w r b0 30 v) (h : DataW.Trod enc Try.prog w base (fun _ => true) held 30 v d p) :
    ∃ L k c, ∃ xs : List Int, v = .slice L k c ∧ k = xs.length ∧ k ≤ 9223372036854775807 ∧ k ≤ c ∧ Held w w.heap.size 1 encI L xs := by
  obtain ⟨a, len, cap, rfl⟩ := okWide_slice Try.underlying30 hv
  obtain ⟨fuel, hf⟩ := h
  obtain ⟨L, k, c, xs, hA, hn, hc, hcm, hh⟩ := held_of_slice (el := encI) (k := 1) Try.underlying30 (by kernel_rfl) (by omega) (fun _ _ _ h => by
    obtain ⟨a, ha, _, _⟩ := DataW.trod_int Try.underlying3 h
    exact ⟨a, ha⟩) hf
  have hm : maxLen ≤ 9223372036854775807 := by unfold maxLen; omega
  have e : [Value.slice a len cap] = [Value.slice L k c] := hA
  simp only [List.cons.injEq, and_true] at e
  exact ⟨L, k, c, xs, e, hn, by omega, hc, hh⟩
set_option maxRecDepth 100000 in
theorem open_kind {r : Reach} {b0 : Nat} {v : Value} {d : DataW H} {p : List MemPlace} (hv : Value.okWide Try.prog w r b0 65 v) (h : DataW.Trod enc Try.prog w base (fun _ => true) held 65 v d p) :
    ∃ y1 y2, v = .agg #[.int .i64 y1, .int .i64 y2] := by
  obtain ⟨c1, c2, y1, y2, m, rfl, _, _, h1, h2⟩ := open_agg2 Try.underlying65 (by kernel_rfl) (by kernel_rfl) hv h
  obtain ⟨a, ha, _, _⟩ := DataW.trod_int Try.underlying2 h1
  obtain ⟨b, hb, _, _⟩ := DataW.trod_int Try.underlying3 h2
  simp only [List.cons.injEq, and_true] at ha hb
  subst ha hb
  exact ⟨a, b, rfl⟩

theorem trodAll_five {P : Program} {spare : Nat → Bool} {t t' t2 t3 t4 : TypeId} {args : Array Value} {ds : List (DataW H)} {ps : List MemPlace} (h : DataW.TrodAll enc P w base spare held [t, t', t2, t3, t4] args.toList ds ps) :
    ∃ v v' v2 v3 v4 d d' d2 d3 d4 p p' p2 p3 p4, args = #[v, v', v2, v3, v4] ∧ ds = [d, d', d2, d3, d4] ∧ ps = p ++ (p' ++ (p2 ++ (p3 ++ p4))) ∧ DataW.Trod enc P w base spare held t v d p ∧ DataW.Trod enc P w base spare held t' v' d' p' ∧ DataW.Trod enc P w base spare held t2 v2 d2 p2 ∧ DataW.Trod enc P w base spare held t3 v3 d3 p3 ∧ DataW.Trod enc P w base spare held t4 v4 d4 p4 := by
  obtain ⟨v, vs, d, ds', p, q, hargs, rfl, rfl, hd, hr⟩ := trodAll_cons h
  obtain ⟨v', vs', d', ds'', p', q', rfl, rfl, rfl, hd', hr'⟩ := trodAll_cons hr
  obtain ⟨v2, vs2, d2, ds2, p2, q2, rfl, rfl, rfl, hd2, hr2⟩ := trodAll_cons hr'
  obtain ⟨v3, vs3, d3, ds3, p3, q3, rfl, rfl, rfl, hd3, hr3⟩ := trodAll_cons hr2
  obtain ⟨v4, vs4, d4, ds4, p4, q4, rfl, rfl, rfl, hd4, hr4⟩ := trodAll_cons hr3
  obtain ⟨rfl, rfl, rfl⟩ := trodAll_nil hr4
  exact ⟨v, v', v2, v3, v4, d, d', d2, d3, d4, p, p', p2, p3, p4, by cases args; simp_all, rfl, by simp, hd, hd', hd2, hd3, hd4⟩
end
end Go.Proofs.Ytchmdkdiilaejaa
