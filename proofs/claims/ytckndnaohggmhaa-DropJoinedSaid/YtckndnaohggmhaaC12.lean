/- Texts of the package drop, joined: Longer. -/
import Derived.Test.YtckndnaohggmhaaC11
import Derived.ArgAppend
/- longer: a way with one more place, in a new row. -/
namespace Go.Proofs.Ytckndnaohggmhaa
open Go.RowKit Go.Shelf

theorem owns_mono {w : World} {base base' : Nat} {e : TypeId} {size n : Nat} {v : Value} {xs : List Value} (h : w.ownsRow base e size v n xs) (hb : base' ≤ base) : w.ownsRow base' e size v n xs := by
  refine ⟨h.1, h.2.imp id ?_⟩
  rintro ⟨g, cap, cur, hv, hg, r⟩
  exact ⟨g, cap, cur, hv, Nat.le_trans hb hg, r⟩

set_option maxHeartbeats 1000000 in
theorem longer_any (b off n c : Nat) (xs : List Int) (p : Int) (w : World) (hnn : n = xs.length) (hn : n ≤ 1000) (hnc : n ≤ c) (hcm : c ≤ maxLen) (hb : b < w.heap.size)
    (hx : ∀ j x, xs[j]? = some x → w.cell? ⟨b, off + j, none⟩ = some (.int .i64 x)) :
    Calls Try.prog 118 #[.slice (some ⟨b, off, none⟩) n c, .int .i64 p] w (ListPost (xs ++ [p]) w) := by
  obtain ⟨i0, hi, hz0, hz1, hz2⟩ := info_parts info3
  have HI := Lib.hid hi
  have HZ0 := Lib.hid hz0
  have HZ1 := Lib.hid hz1
  have HZ2 := Lib.hid hz2
  have HN := Lib.hid hnn
  have HX := Lib.hid hx
  have HC := Lib.hid hcm
  clear hi hz0 hz1 hz2 hnn hx hcm
  have hb0 : Below w.heap.size w (w.alloc (.cells #[.int .i64 p] 3)) := (Below.refl _ w).alloc (Nat.le_refl _) _
  have HB := Lib.hid hb0
  clear hb0
  go_enter Try.func118, Try.ntmps118
  go_wp2_with (first | (at_builtin; refine wpList_append_arg _ rfl (.tmp 10) (.tmp 12) 42 rfl 3 i0 (.int .i64 0) 1 8 Try.underlying42 HI.out HZ0.out HZ1.out HZ2.out rfl (by decide) b off n n (xs.map (Value.int .i64)) rfl ?lo ?olds ⟨w.heap.size, 0, none⟩ 1 1 [.int .i64 p] rfl rfl (cell_one_new _ _ _) (one_cell' _) ?spare ?b1 ?b2 ?room ?grow))
  case lo => rw [List.length_map, Nat.mul_one]; exact HN.out.symm
  case olds =>
    intro j u hu
    rw [List.getElem?_map, Option.map_eq_some_iff] at hu
    obtain ⟨x, hx, rfl⟩ := hu
    exact (HB.out.cell (p := ⟨b, off + j, none⟩) hb).trans (HX.out j x hx)
  case spare => intro h; omega
  case b1 => unfold maxLen; omega
  case b2 => omega
  case room => intro h; omega
  case grow =>
    intro v' w1 hown hgrow
    have hB1 := Lib.hid (HB.out.grown hgrow (by simp) (fun b e => by simp at e))
    have hO1 := Lib.hid hown
    clear hown hgrow
    go_wp2
    go_ret
    refine ⟨_, rfl, ⟨?_, fun e => by simp at e⟩, hB1.out⟩
    have := hO1.out
    rw [List.length_append, List.map_append, ← HN.out]
    exact owns_mono this (Nat.le_succ _)
end Go.Proofs.Ytckndnaohggmhaa
