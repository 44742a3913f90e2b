/- Texts of the package drop, joined: OpenBy. -/
import Derived.Test.YtckndnaohggmhaaC41
import Derived.Test.YtckndnaohggmhaaC49
/- A list of small numbers, and a pair of them, that come in as arguments; four arguments. -/
namespace Go.Proofs.Ytckndnaohggmhaa
open Go.ChangeShapes Go.WideShapes Go.ChangeAt Go.RowKit Go.Deep Go.Joins

theorem bounds_u16' {n : Int} (h : (Lit.int .u16 n).wf = true) : 0 ≤ n ∧ n ≤ 65535 := by
  simp [Lit.wf, IntKind.min, IntKind.max, IntKind.signed, IntKind.bits] at h
  omega
theorem bounds_u8' {n : Int} (h : (Lit.int .u8 n).wf = true) : 0 ≤ n ∧ n ≤ 255 := by
  simp [Lit.wf, IntKind.min, IntKind.max, IntKind.signed, IntKind.bits] at h
  omega

/-- A number of 16 bits. -/
abbrev U16 : Type := { x : Int // 0 ≤ x ∧ x ≤ 65535 }
instance : Inhabited U16 := ⟨⟨0, by omega⟩⟩

theorem Held.map {α β : Type} {w : World} {B k : Nat} {e : β → List Value} {g : α → β} {A : Option Addr} {xs : List α} (h : Held w B k (fun x => e (g x)) A xs) : Held w B k e A (xs.map g) := by
  rcases h with h | ⟨b, off, hA, hb, hc⟩
  · exact .inl (by rw [h]; rfl)
  · refine .inr ⟨b, off, hA, hb, fun j x hj i v hi => ?_⟩
    rw [List.getElem?_map, Option.map_eq_some_iff] at hj
    obtain ⟨z, hz, rfl⟩ := hj
    exact hc j z hz i v hi

section
variable {H : Type} {enc : TypeId × Value → H} {w : World} {base : Nat} {held : Bool}

set_option maxRecDepth 100000 in
theorem open_u16s {r : Reach} {b0 : Nat} {v : Value} {d : DataW H} {p : List MemPlace} (hv : Value.okWide Try.prog w r b0 53 v) (h : DataW.Trod enc Try.prog w base (fun _ => true) held 53 v d p) :
    ∃ L k c xs, v = .slice L k c ∧ k = List.length xs ∧ k ≤ 9223372036854775807 ∧ Held w w.heap.size 1 encU L xs ∧ ∀ i, 0 ≤ xs.getD i 0 ∧ xs.getD i 0 ≤ 65535 := by
  obtain ⟨a, len, cap, rfl⟩ := okWide_slice Try.underlying53 hv
  obtain ⟨fuel, hf⟩ := h
  obtain ⟨L, k, c, xs, hA, hn, hc, hcm, hh⟩ := held_of_slice (α := U16) (el := fun x => encU x.val) (k := 1) Try.underlying53 (by kernel_rfl) (by omega) (fun _ _ _ h => by
    obtain ⟨a, ha, _, hw⟩ := DataW.trod_int Try.underlying66 h
    exact ⟨⟨a, bounds_u16' hw⟩, ha⟩) hf
  have hm : maxLen ≤ 9223372036854775807 := by unfold maxLen; omega
  have e : [Value.slice a len cap] = [Value.slice L k c] := hA
  simp only [List.cons.injEq, and_true] at e
  refine ⟨L, k, c, xs.map (·.val), e, by simpa using hn, by omega, Held.map hh, fun i => ?_⟩
  by_cases hi : i < xs.length
  · have := xs[i].2
    simpa [List.getElem?_eq_getElem hi] using this
  · simp [List.getElem?_eq_none (Nat.le_of_not_lt hi)]

theorem list2 {α : Type} (l : List α) (h : l.length = 2) : ∃ a b, l = [a, b] := by
  match l, h with
  | [a, b], _ => exact ⟨a, b, rfl⟩

set_option maxRecDepth 100000 in
theorem open_pair {r : Reach} {b0 : Nat} {v : Value} {d : DataW H} {p : List MemPlace} (hv : Value.okWide Try.prog w r b0 54 v) (h : DataW.Trod enc Try.prog w base (fun _ => true) held 54 v d p) :
    ∃ x y, v = .agg #[.int .u8 x, .int .u8 y] ∧ d = .agg [.lit (.int .u8 x), .lit (.int .u8 y)] ∧ p = [] ∧ (Lit.int .u8 x).wf = true ∧ (Lit.int .u8 y).wf = true := by
  obtain ⟨cs, rfl, hsz, _⟩ : ∃ cs, v = .agg cs ∧ cs.size = Try.prog.cellsOf 54 ∧ Row.okWide Try.prog w r b0 54 cs := by
    simpa [Value.okWide, Try.underlying54] using hv
  rw [show Try.prog.cellsOf 54 = 2 from by kernel_rfl] at hsz
  obtain ⟨l⟩ := cs
  obtain ⟨c0, c1, rfl⟩ := list2 l hsz
  obtain ⟨fuel, hf⟩ := h
  obtain ⟨xs, m, _, hx, _, hl, hel⟩ := DataW.trod_array Try.underlying54 hf
  obtain ⟨y0, y1, rfl⟩ := list2 xs hl
  have h0 := hel 0 (by omega)
  have h1 := hel 1 (by omega)
  simp only [show Try.prog.cellsOf 5 = 1 from by kernel_rfl, Nat.zero_mul, Nat.one_mul, Value.cells, List.drop_zero, List.take_succ_cons, List.take_zero, List.drop_succ_cons, List.getElem?_cons_zero, List.getElem?_cons_succ] at h0 h1
  obtain ⟨x, ex, rfl, wx⟩ := DataW.trod_int Try.underlying5 h0
  obtain ⟨y, ey, rfl, wy⟩ := DataW.trod_int Try.underlying5 h1
  simp only [List.cons.injEq, and_true] at ex ey
  subst ex ey
  simp only [Prod.mk.injEq] at hx
  exact ⟨x, y, rfl, hx.1, by simpa using hx.2, wx, wy⟩
theorem shut_pair {W : World} {sp : Nat → Bool} {b0 : Nat} {x y : Int} (wx : (Lit.int .u8 x).wf = true) (wy : (Lit.int .u8 y).wf = true) : DataW.Trod enc Try.prog W b0 sp held 54 (.agg #[.int .u8 x, .int .u8 y]) (.agg [.lit (.int .u8 x), .lit (.int .u8 y)]) [] :=
  ⟨2, by simp [DataW.trod, Value.cells, Try.underlying54, Try.underlying5, show Try.prog.cellsOf 54 = 2 from by kernel_rfl, show Try.prog.cellsOf 5 = 1 from by kernel_rfl, wx, wy, show List.range 2 = [0, 1] from rfl]⟩

theorem trodAll_four {P : Program} {spare : Nat → Bool} {t t' t2 t3 : TypeId} {args : Array Value} {ds : List (DataW H)} {ps : List MemPlace} (h : DataW.TrodAll enc P w base spare held [t, t', t2, t3] args.toList ds ps) :
    ∃ v v' v2 v3 d d' d2 d3 p p' p2 p3, args = #[v, v', v2, v3] ∧ ds = [d, d', d2, d3] ∧ ps = p ++ (p' ++ (p2 ++ p3)) ∧ DataW.Trod enc P w base spare held t v d p ∧ DataW.Trod enc P w base spare held t' v' d' p' ∧ DataW.Trod enc P w base spare held t2 v2 d2 p2 ∧ DataW.Trod enc P w base spare held t3 v3 d3 p3 := by
  obtain ⟨v, vs, d, ds', p, q, hargs, rfl, rfl, hd, hr⟩ := trodAll_cons h
  obtain ⟨v', vs', d', ds'', p', q', rfl, rfl, rfl, hd', hr'⟩ := trodAll_cons hr
  obtain ⟨v2, vs2, d2, ds2, p2, q2, rfl, rfl, rfl, hd2, hr2⟩ := trodAll_cons hr'
  obtain ⟨v3, vs3, d3, ds3, p3, q3, rfl, rfl, rfl, hd3, hr3⟩ := trodAll_cons hr2
  obtain ⟨rfl, rfl, rfl⟩ := trodAll_nil hr3
  exact ⟨v, v', v2, v3, d, d', d2, d3, p, p', p2, p3, by cases args; simp_all, rfl, by simp, hd, hd', hd2, hd3⟩
end
end Go.Proofs.Ytckndnaohggmhaa
