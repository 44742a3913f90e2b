/- Texts of one package, joined: Open. -/
import Derived.Test.YtmlmnljbegcjcaaGreatD12
import Derived.ProofKit
import Derived.OpenShut
import Derived.Lib.SmallJoins
import Derived.Deep.Slices
import Derived.Deep.Strs
/- Orders, births and ints that come in as arguments. -/
namespace Go.Proofs.YtmlmnljbegcjcaaGreat
open Go.ChangeShapes Go.WideShapes Go.ChangeAt Go.RowKit Go.Deep Go.Joins

instance : Inhabited Odr := ⟨⟨0, 0, 0, 0, 0⟩⟩
section
variable {H : Type} {enc : TypeId × Value → H} {w : World} {base : Nat} {held : Bool}

theorem held_of_slice {α : Type} [Inhabited α] {k : Nat} {el : α → List Value} {t e : TypeId} {fuel : Nat} {cs : List Value} {x : DataW H × List MemPlace} (ht : Tryz.prog.underlying t = some (.slice e)) (hk : Tryz.prog.cellsOf e = k) (hk0 : 0 < k)
    (one : ∀ (m : Nat) (cs' : List Value) (y : DataW H × List MemPlace), DataW.trod enc Tryz.prog w base (fun _ => true) held m e cs' = some y → ∃ z : α, cs' = el z)
    (h : DataW.trod enc Tryz.prog w base (fun _ => true) held fuel t cs = some x) :
    ∃ A n c, ∃ xs : List α, cs = [.slice A n c] ∧ n = xs.length ∧ n ≤ c ∧ c ≤ maxLen ∧ Held w w.heap.size k el A xs := by
  rcases open_slice ht h with ⟨rfl, _⟩ | ⟨a, len, cap, m, n, D, Pl, rfl, _, hl, hm, hmm, _, hx⟩
  · exact ⟨none, 0, 0, [], rfl, rfl, Nat.le_refl _, Nat.zero_le _, .inl rfl⟩
  · simp only [if_true] at hmm
    rw [hk] at hx
    obtain ⟨z, hz⟩ := choose_lt (n := len) (p := fun i z => w.cells? base (a.add (i * k)) k = some (el z)) (fun i hi => by
      obtain ⟨cs', h1, h2⟩ := hx i (by omega)
      obtain ⟨z, rfl⟩ := one _ _ _ h2
      exact ⟨z, h1⟩)
    refine ⟨some a, len, cap, (List.range len).map z, rfl, by simp, hl, hm, ?_⟩
    by_cases h0 : len = 0
    · left
      subst h0
      rfl
    · right
      obtain ⟨b, off, spot⟩ := a
      obtain ⟨_, hlen0, hc0⟩ := World.cells?_some (hz 0 (by omega))
      have hfirst := hc0 0 hk0
      obtain ⟨v0, hv0⟩ : ∃ v0, (el (z 0))[0]? = some v0 := ⟨_, List.getElem?_eq_getElem (by omega)⟩
      rw [hv0] at hfirst
      have hspot : spot = none := by simpa [Addr.add] using World.cell?_spot hfirst
      subst hspot
      refine ⟨b, off, rfl, ?_, fun j x hj i v hi => ?_⟩
      · have := World.block_lt_of_cell? w _ hfirst
        simpa [Addr.add] using this
      · rw [List.getElem?_map, Option.map_eq_some_iff] at hj
        obtain ⟨j', hj', rfl⟩ := hj
        obtain ⟨hjl, hj'⟩ := List.getElem?_eq_some_iff.1 hj'
        simp only [List.getElem_range] at hj'
        subst hj'
        rw [List.length_range] at hjl
        obtain ⟨_, hlenj, hcj⟩ := World.cells?_some (hz j hjl)
        have hik : i < k := by
          have := (List.getElem?_eq_some_iff.1 hi).1
          omega
        have := hcj i hik
        rw [hi] at this
        rw [Addr.add_lit, Addr.add_lit] at this
        exact this


set_option maxRecDepth 100000 in
theorem range_of_trod {m : Nat} {cs' : List Value} {y : DataW H × List MemPlace} {spare : Nat → Bool} (h : DataW.trod enc Tryz.prog w base spare held m 26 cs' = some y) : ∃ a b : Int, cs' = [.int .i64 a, .int .i64 b] := by
  obtain ⟨y0, y1, n, _, hl, h0, h1⟩ := trod_struct2 Tryz.underlying26 h
  rw [show Tryz.prog.cellsOf 26 = 2 from by kernel_rfl] at hl
  match cs', hl with
  | [c0, c1], _ =>
    simp only [show Tryz.prog.cellsOf 2 = 1 from by kernel_rfl, List.drop_zero, List.take_succ_cons, List.take_zero, List.drop_succ_cons] at h0 h1
    obtain ⟨a, ha, _, _⟩ := DataW.trod_int Tryz.underlying2 h0
    obtain ⟨b, hb, _, _⟩ := DataW.trod_int Tryz.underlying2 h1
    simp only [List.cons.injEq, and_true] at ha hb
    subst ha hb
    exact ⟨a, b, rfl⟩
set_option maxRecDepth 100000 in
theorem order_of_trod {m : Nat} {cs' : List Value} {y : DataW H × List MemPlace} {spare : Nat → Bool} (h : DataW.trod enc Tryz.prog w base spare held m 56 cs' = some y) : ∃ o : Odr, cs' = encO o := by
  obtain ⟨y0, y1, y2, n, _, hl, h0, h1, h2⟩ := trod_struct3 Tryz.underlying56 h
  rw [show Tryz.prog.cellsOf 56 = 5 from by kernel_rfl] at hl
  match cs', hl with
  | [c0, c1, c2, c3, c4], _ =>
    simp only [show Tryz.prog.cellsOf 2 = 1 from by kernel_rfl, show Tryz.prog.cellsOf 26 = 2 from by kernel_rfl, List.drop_zero, List.take_succ_cons, List.take_zero, List.drop_succ_cons] at h0 h1 h2
    obtain ⟨a, b, h0⟩ := range_of_trod h0
    obtain ⟨c, d, h1⟩ := range_of_trod h1
    obtain ⟨e, h2, _, _⟩ := DataW.trod_int Tryz.underlying2 h2
    simp only [List.cons.injEq, and_true] at h0 h1 h2
    obtain ⟨rfl, rfl⟩ := h0
    obtain ⟨rfl, rfl⟩ := h1
    subst h2
    exact ⟨⟨a, b, c, d, e⟩, rfl⟩
set_option maxRecDepth 100000 in
theorem open_orders {r : Reach} {b0 : Nat} {v : Value} {d : DataW H} {p : List MemPlace} (hv : Value.okWide Tryz.prog w r b0 22 v) (h : DataW.Trod enc Tryz.prog w base (fun _ => true) held 22 v d p) :
    ∃ A n c os, v = .slice A n c ∧ IsOrders w A n c os := by
  obtain ⟨a, len, cap, rfl⟩ := okWide_slice Tryz.underlying22 hv
  obtain ⟨fuel, hf⟩ := h
  obtain ⟨L, k, c, xs, hA, hn, hc, hcm, hh⟩ := held_of_slice (el := encO) (k := 5) Tryz.underlying22 (by kernel_rfl) (by omega) (fun _ _ _ h => order_of_trod h) hf
  have hm : maxLen ≤ 9223372036854775807 := by unfold maxLen; omega
  have e : [Value.slice a len cap] = [Value.slice L k c] := hA
  simp only [List.cons.injEq, and_true] at e
  exact ⟨L, k, c, xs, e, hn, by omega, hc, hh⟩
end
end Go.Proofs.YtmlmnljbegcjcaaGreat
