/- Texts of one package, joined: Posts. -/
import Derived.Test.YtchmdkdiilaejaaC27
/- What the functions hand over, as slices that are held. -/
namespace Go.Proofs.Ytchmdkdiilaejaa
open Go.RowKit Go.Shelf
attribute [local irreducible] bitCells fitCells Z94 fitOf

theorem owns_bound {W : World} {base : Nat} {e : TypeId} {size n : Nat} {v : Value} {xs : List Value} (h : W.ownsRow base e size v n xs) : n ≤ 9223372036854775807 := by
  rcases h.2 with ⟨_, h1⟩ | ⟨_, cap, _, _, _, _, h1, h2, _⟩
  · omega
  · unfold maxLen at h2; omega
theorem post_ints {cs ms : List (Int × Int)} {err : Int} {xs : List Int} {w w' : World} {e : Ending} (h : SheetPost cs ms err (fun B w' v => MadeInts B xs w' v) w e w') :
    Ext w w' ∧ ∃ A m c, e = .returned (.tuple #[.slice A m c, .int .i64 err]) ∧ m = (if err = 0 then xs else []).length ∧ m ≤ 9223372036854775807 ∧ Held w' w'.heap.size 1 encI A (if err = 0 then xs else []) := by
  obtain ⟨hE, ⟨hne, rfl⟩ | ⟨h0, v, rfl, hM⟩⟩ := h
  · rw [if_neg hne]
    exact ⟨hE, none, 0, 0, rfl, rfl, by omega, .inl rfl⟩
  · subst h0
    rw [if_pos rfl]
    obtain ⟨A, c, rfl⟩ := made_slice hM
    exact ⟨hE, A, _, c, rfl, rfl, owns_bound hM.1, ints_held hM rfl⟩
theorem post_longs {cs ms : List (Int × Int)} {err : Int} {xs : List Int} {w w' : World} {e : Ending} (h : SheetPost cs ms err (fun B w' v => MadeLongs B xs w' v) w e w') :
    Ext w w' ∧ ∃ A m c, e = .returned (.tuple #[.slice A m c, .int .i64 err]) ∧ m = (if err = 0 then xs else []).length ∧ m ≤ 9223372036854775807 ∧ Held w' w'.heap.size 1 encI A (if err = 0 then xs else []) := by
  obtain ⟨hE, ⟨hne, rfl⟩ | ⟨h0, v, rfl, hM⟩⟩ := h
  · rw [if_neg hne]
    exact ⟨hE, none, 0, 0, rfl, rfl, by omega, .inl rfl⟩
  · subst h0
    rw [if_pos rfl]
    obtain ⟨A, c, rfl⟩ := made_slice2 hM
    exact ⟨hE, A, _, c, rfl, rfl, owns_bound hM.1, longs_held hM rfl⟩
theorem places_same {cs ms : List (Int × Int)} {q : Int} : (if placesErr cs ms q = 0 then placesOf q (fitsOf cs ms) else []) = if placesErr cs ms q = 0 then atsOf cs ms q.toNat else [] := by
  by_cases h : placesErr cs ms q = 0
  · rw [if_pos h, if_pos h]
    unfold placesErr at h
    by_cases h0 : sheetErr cs ms = 0
    · rw [if_pos h0] at h
      cases hs : strange cs.length (q, 0) with
      | true => rw [hs, if_pos rfl] at h; cases h
      | false =>
        obtain ⟨h1, h2⟩ := (strange_iff _ _).1 hs
        have := places_are (cs := cs) (ms := ms) h0 (q := q.toNat) (by dsimp only at h1 h2; omega)
        rwa [show ((q.toNat : Nat) : Int) = q from by dsimp only at h1; omega] at this
    · rw [if_neg h0] at h
      exact absurd h h0
  · rw [if_neg h, if_neg h]

end Go.Proofs.Ytchmdkdiilaejaa
