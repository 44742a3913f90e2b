/- Texts of the package drop, joined: OpenBath. -/
import Derived.Test.YtckndnaohggmhaaC4
import Derived.ProofKit
import Derived.OpenShut
import Derived.Lib.SmallJoins
import Derived.Deep.Slices
/- A bath that comes in as an argument: what its value is. -/
namespace Go.Proofs.Ytckndnaohggmhaa
open Go.ChangeShapes Go.WideShapes Go.ChangeAt Go.RowKit Go.Deep Go.Joins

section
variable {H : Type} {enc : TypeId × Value → H} {w : World} {base : Nat} {held : Bool}

theorem held_of_slice {α : Type} [Inhabited α] {k : Nat} {el : α → List Value} {t e : TypeId} {fuel : Nat} {cs : List Value} {x : DataW H × List MemPlace} (ht : Try.prog.underlying t = some (.slice e)) (hk : Try.prog.cellsOf e = k) (hk0 : 0 < k)
    (one : ∀ (m : Nat) (cs' : List Value) (y : DataW H × List MemPlace), DataW.trod enc Try.prog w base (fun _ => true) held m e cs' = some y → ∃ z : α, cs' = el z)
    (h : DataW.trod enc Try.prog w base (fun _ => true) held fuel t cs = some x) :
    ∃ A n c, ∃ xs : List α, cs = [.slice A n c] ∧ n = xs.length ∧ n ≤ c ∧ c ≤ maxLen ∧ Held w w.heap.size k el A xs := by
  rcases open_slice ht h with ⟨rfl, _⟩ | ⟨a, len, cap, m, n, D, Pl, rfl, _, hl, hm, hmm, _, hx⟩
  · exact ⟨none, 0, 0, [], rfl, rfl, Nat.le_refl _, Nat.zero_le _, .inl rfl⟩
  · simp only [if_true] at hmm
    rw [hk] at hx
    obtain ⟨z, hz⟩ := choose_lt (n := len) (p := fun i z => w.cells? base (a.add (i * k)) k = some (el z)) (fun i hi => by
      obtain ⟨cs', h1, h2⟩ := hx i (by omega)
      obtain ⟨z, rfl⟩ := one _ _ _ h2
      exact ⟨z, h1⟩)
    refine ⟨some a, len, cap, (List.range len).map z, rfl, by simp, hl, hm, ?_⟩
    by_cases h0 : len = 0
    · left
      subst h0
      rfl
    · right
      obtain ⟨b, off, spot⟩ := a
      obtain ⟨_, hlen0, hc0⟩ := World.cells?_some (hz 0 (by omega))
      have hfirst := hc0 0 hk0
      obtain ⟨v0, hv0⟩ : ∃ v0, (el (z 0))[0]? = some v0 := ⟨_, List.getElem?_eq_getElem (by omega)⟩
      rw [hv0] at hfirst
      have hspot : spot = none := by simpa [Addr.add] using World.cell?_spot hfirst
      subst hspot
      refine ⟨b, off, rfl, ?_, fun j x hj i v hi => ?_⟩
      · have := World.block_lt_of_cell? w _ hfirst
        simpa [Addr.add] using this
      · rw [List.getElem?_map, Option.map_eq_some_iff] at hj
        obtain ⟨j', hj', rfl⟩ := hj
        obtain ⟨hjl, hj'⟩ := List.getElem?_eq_some_iff.1 hj'
        simp only [List.getElem_range] at hj'
        subst hj'
        rw [List.length_range] at hjl
        obtain ⟨_, hlenj, hcj⟩ := World.cells?_some (hz j hjl)
        have hik : i < k := by
          have := (List.getElem?_eq_some_iff.1 hi).1
          omega
        have := hcj i hik
        rw [hi] at this
        rw [Addr.add_lit, Addr.add_lit] at this
        exact this

set_option maxRecDepth 100000 in
theorem spot_of_trod {m : Nat} {cs' : List Value} {y : DataW H × List MemPlace} {spare : Nat → Bool} (h : DataW.trod enc Try.prog w base spare held m 74 cs' = some y) : ∃ z : Int × Int, cs' = encS z := by
  obtain ⟨y0, y1, n, _, hl, h0, h1⟩ := trod_struct2 Try.underlying74 h
  rw [show Try.prog.cellsOf 74 = 2 from by kernel_rfl] at hl
  match cs', hl with
  | [c0, c1], _ =>
    simp only [show Try.prog.cellsOf 2 = 1 from by kernel_rfl, List.drop_zero, List.take_succ_cons, List.take_zero, List.drop_succ_cons] at h0 h1
    obtain ⟨a, ha, _, _⟩ := DataW.trod_int Try.underlying2 h0
    obtain ⟨b, hb, _, _⟩ := DataW.trod_int Try.underlying2 h1
    simp only [List.cons.injEq, and_true] at ha hb
    subst ha hb
    exact ⟨(a, b), rfl⟩
set_option maxRecDepth 100000 in
theorem drop_of_trod {m : Nat} {cs' : List Value} {y : DataW H × List MemPlace} {spare : Nat → Bool} (h : DataW.trod enc Try.prog w base spare held m 62 cs' = some y) : ∃ z : Int × Int × Int, cs' = encD z := by
  obtain ⟨y0, y1, n, _, hl, h0, h1⟩ := trod_struct2 Try.underlying62 h
  rw [show Try.prog.cellsOf 62 = 3 from by kernel_rfl] at hl
  match cs', hl with
  | [c0, c1, c2], _ =>
    simp only [show Try.prog.cellsOf 3 = 1 from by kernel_rfl, show Try.prog.cellsOf 29 = 2 from by kernel_rfl, List.drop_zero, List.take_succ_cons, List.take_zero, List.drop_succ_cons] at h0 h1
    obtain ⟨a, ha, _, _⟩ := DataW.trod_int Try.underlying3 h0
    obtain ⟨y2, y3, n2, _, hl2, h2, h3⟩ := trod_struct2 Try.underlying29 h1
    simp only [show Try.prog.cellsOf 2 = 1 from by kernel_rfl, List.drop_zero, List.take_succ_cons, List.take_zero, List.drop_succ_cons] at h2 h3
    obtain ⟨b, hb, _, _⟩ := DataW.trod_int Try.underlying2 h2
    obtain ⟨c, hc, _, _⟩ := DataW.trod_int Try.underlying2 h3
    simp only [List.cons.injEq, and_true] at ha hb hc
    subst ha hb hc
    exact ⟨(a, b, c), rfl⟩

set_option maxRecDepth 100000 in
theorem open_bath {r : Reach} {b0 : Nat} {v : Value} {d : DataW H} {p : List MemPlace} (hv : Value.okWide Try.prog w r b0 25 v) (h : DataW.Trod enc Try.prog w base (fun _ => true) held 25 v d p) :
    ∃ Wd A n c A' n' c' ss ds, v = .agg #[.int .i64 Wd, .slice A n c, .slice A' n' c'] ∧ IsBath w w.heap.size A n c A' n' c' ss ds := by
  obtain ⟨c0, c1, c2, y0, y1, y2, m, rfl, _, _, h0, h1, h2⟩ := open_agg3 Try.underlying25 (by kernel_rfl) (by kernel_rfl) hv h
  obtain ⟨Wd, hW, _, _⟩ := DataW.trod_int Try.underlying2 h0
  obtain ⟨A, n, c, ss, hA, hn, hc, hcm, hh⟩ := held_of_slice (el := encS) (k := 2) Try.underlying22 (by kernel_rfl) (by omega) (fun _ _ _ h => spot_of_trod h) h1
  obtain ⟨A', n', c', ds, hA', hn', hc', hcm', hh'⟩ := held_of_slice (el := encD) (k := 3) Try.underlying23 (by kernel_rfl) (by omega) (fun _ _ _ h => drop_of_trod h) h2
  simp only [List.cons.injEq, and_true] at hW hA hA'
  subst hW hA hA'
  have hm : maxLen ≤ 9223372036854775807 := by unfold maxLen; omega
  exact ⟨Wd, A, n, c, A', n', c', ss, ds, rfl, hn, hn', by omega, by omega, hc, hc', hh, hh'⟩
end
end Go.Proofs.Ytckndnaohggmhaa
