/- Texts of one package, joined: Base. -/
import Derived.Test.YtmlmnljbegcjcaaGreatProg
import Derived.WalkKit
import Derived.WalkSpells
import Derived.WalkLawsBesides
import Derived.Lib.Hide
/- Words for this seat: slices that read as lists, predicates that are handed over, kept over calls that make memory. No conditions of its own. -/
namespace Go.Proofs.YtmlmnljbegcjcaaGreat
open Go.RowKit

/-- The slice at A holds the elements xs, k cells each, in a block below B. -/
def Held {α : Type} (w : World) (B k : Nat) (enc : α → List Value) (A : Option Addr) (xs : List α) : Prop :=
  xs = [] ∨ ∃ b off, A = some ⟨b, off, none⟩ ∧ b < B ∧ ∀ j x, xs[j]? = some x → ∀ i v, (enc x)[i]? = some v → w.cell? ⟨b, off + j * k + i, none⟩ = some v

theorem Held.kept {α : Type} {w w' : World} {B C k : Nat} {enc : α → List Value} {A : Option Addr} {xs : List α} (h : Held w B k enc A xs) (hb : Below C w w') (hB : B ≤ C) : Held w' B k enc A xs := by
  rcases h with h | ⟨b, off, rfl, hlt, hc⟩
  · exact .inl h
  · exact .inr ⟨b, off, rfl, hlt, fun j x hx i v hv => (hb.cell (p := ⟨b, off + j * k + i, none⟩) (by show b < C; omega)).trans (hc j x hx i v hv)⟩

theorem Held.wider {α : Type} {w : World} {B C k : Nat} {enc : α → List Value} {A : Option Addr} {xs : List α} (h : Held w B k enc A xs) (hB : B ≤ C) : Held w C k enc A xs := by
  rcases h with h | ⟨b, off, rfl, hlt, hc⟩
  · exact .inl h
  · exact .inr ⟨b, off, rfl, by omega, hc⟩

/-- A function value that answers p of every element of xs, and turns nothing that lay in w. -/
def PredOn {α : Type} (g : Nat) (lb : Array Value) (enc : α → Value) (p : α → Bool) (xs : List α) (w : World) : Prop :=
  ∀ (W : World) (x : α), x ∈ xs → Below w.heap.size w W → Calls Tryz.prog g (#[enc x] ++ lb) W fun e w' => e = .returned (.bool (p x)) ∧ Below W.heap.size W w'

theorem bstep {A : Nat} {w W W' : World} (h : Below A w W) (hs : A ≤ W.heap.size) (h' : Below W.heap.size W W') : Below A w W' := h.trans (h'.mono hs)

theorem findIdx_hit {α : Type} (p : α → Bool) : ∀ (xs : List α) (k : Nat) (h : k < xs.length), (∀ j (hj : j < k), p (xs[j]'(by omega)) = false) → p xs[k] = true → xs.findIdx p = k := by
  intro xs k h hn hy
  exact (List.findIdx_eq h).2 ⟨hy, fun j hj => hn j hj⟩

theorem findIdx_miss {α : Type} (p : α → Bool) (xs : List α) (hn : ∀ j (hj : j < xs.length), p xs[j] = false) : xs.findIdx p = xs.length := by
  rw [List.findIdx_eq_length]
  intro x hx
  obtain ⟨j, hj, rfl⟩ := List.getElem_of_mem hx
  exact hn j hj

theorem ret_bool {a b : Bool} (h : a = b) : Ending.returned (.bool a) = .returned (.bool b) := by rw [h]
theorem ret_num {k : IntKind} {a b : Int} (h : a = b) : Ending.returned (.int k a) = .returned (.int k b) := by rw [h]

end Go.Proofs.YtmlmnljbegcjcaaGreat
