/- Texts of the package drop, joined: Ex, WorksC, WorksLast, Works. -/
import Derived.Test.YtckndnaohggmhaaC14
import Derived.Test.YtckndnaohggmhaaC18
import Derived.Test.YtckndnaohggmhaaC19
import Derived.Deep.Cut
/- The chapter's example baths: what the program's answers come to there, by reckoning. -/
namespace Go.Proofs.Ytckndnaohggmhaa


theorem ex_fine : bathErr 100 exS exB = 0 := by kernel_rfl
theorem ex_fineC : bathErr 100 exS exC = 0 := by kernel_rfl
theorem ex_size : sizeAns 100 exS exB 0 = ((300, 444), 0) := by kernel_rfl
theorem ex_sizeC : sizeAns 100 exS exC 1 = ((0, 0), 0) := by kernel_rfl
theorem ex_touch : touchAns 100 exS exB 1 2 = (1, 0) := by kernel_rfl
theorem ex_touch2 : touchAns 100 exS exB (-1) 0 = (1, 0) := by kernel_rfl
theorem ex_touch3 : touchAns 100 exS exB 2 (-2) = (0, 0) := by kernel_rfl
theorem ex_beside : besideAns 100 exS exB 0 2 = (2, 0) := by kernel_rfl
theorem ex_beside2 : besideAns 100 exS exB 2 1 = (0, 0) := by kernel_rfl
theorem ex_beside3 : besideAns 100 exS exB 1 3 = (1, 0) := by kernel_rfl
theorem ex_first : firstAns 100 exS exB 0 1 = ((2, 3), 0) := by kernel_rfl
theorem ex_first2 : firstAns 100 exS exB 0 2 = ((0, 0), 17) := by kernel_rfl
theorem ex_first3 : firstAns 100 exS exB 1 2 = ((4, 5), 0) := by kernel_rfl
theorem ex_way : checkWayAns 100 exS exB [0, 1, 2] true = 17 := by kernel_rfl
theorem ex_side : checkSideAns 100 exS exB 0 2 [0] true = 14 := by kernel_rfl
theorem ex_forW : forErr 100 exS exB (-1) 2 = 0 := by kernel_rfl
theorem ex_for02 : forErr 100 exS exB 0 2 = 0 := by kernel_rfl
theorem ex_for0R : forErr 100 exS exB 0 (-2) = 0 := by kernel_rfl
theorem ex_outs : outs (tableOf 100 exS exB false) 5 4 4 1 ≠ 0 := by
  have : outs (tableOf 100 exS exB false) 5 4 4 1 = 4 := by kernel_rfl
  omega
theorem ex_wayOf : wayOf (tableOf 100 exS exB false) 5 1 4 = [1, 2, 3, 4] := by kernel_rfl
theorem ex_outs2 : outs (tableOf 100 exS exB true) 5 4 4 1 = 0 := by kernel_rfl
theorem ex_goes1 : goesC (tableOf 100 exS exB true) 5 2 4 = false := by kernel_rfl
theorem ex_list1 : listTo (goesC (tableOf 100 exS exB true) 5 2) 12 = [0, 1] := by kernel_rfl
theorem ex_goes2 : goesC (tableOf 100 exS exB false) 5 2 4 = true := by kernel_rfl
theorem ex_goes3 : goesC (tableOf 100 exS exB false) 5 2 0 = false := by kernel_rfl
theorem ex_list3 : listTo (goesC (tableOf 100 exS exB false) 5 2) 12 = [-1, 0, 1, 2] := by kernel_rfl
theorem ex_groups1 : groupsC 5 (sizes exB) (tableOf 100 exS exB true) = [[-2], [-1], [0, 1], [2]] := by kernel_rfl
theorem ex_groups0 : groupsC 5 (sizes exB) (tableOf 100 exS exB false) = [[-2], [-1, 0, 1, 2]] := by kernel_rfl
theorem ex_full : freeB 100 exS (sizes exB) 3 2 = false := by kernel_rfl
theorem ex_free1 : freeB 100 exS (sizes exC) 3 1 = true := by kernel_rfl
theorem ex_free0 : freeB 100 exS (sizes exC) 3 0 = true := by kernel_rfl
theorem ex_free2 : freeB 100 exS (sizes exC) 3 2 = true := by kernel_rfl
theorem ex_room1 {r : Nat} (h : Begins (tooFar 100 exS (sizes exC) 3 1) 10000 r) : r = 323 := begins_eq h (by omega) (.inr (by kernel_rfl)) (.inr (by kernel_rfl))
theorem ex_room0 {r : Nat} (h : Begins (tooFar 100 exS (sizes exC) 3 0) 10000 r) : r = 255 := begins_eq h (by omega) (.inr (by kernel_rfl)) (.inr (by kernel_rfl))
theorem ex_room2 {r : Nat} (h : Begins (tooFar 100 exS (sizes exC) 3 2) 10000 r) : r = 299 := begins_eq h (by omega) (.inr (by kernel_rfl)) (.inr (by kernel_rfl))
end Go.Proofs.Ytckndnaohggmhaa

/- What the program's functions answer at the chapter's example baths. -/
namespace Go.Proofs.Ytckndnaohggmhaa
open Go.RowKit Go.Shelf

/-- Memory has grown, nothing that was there has turned. -/
def Ext (W W' : World) : Prop := Below W.heap.size W W'
theorem Ext.trans {a b c : World} (h : Ext a b) (g : Ext b c) : Ext a c := Below.trans h (g.mono h.size)
theorem Ext.refl (a : World) : Ext a a := Below.refl _ a
theorem Held.ext {α : Type} {w w' : World} {k : Nat} {enc : α → List Value} {A : Option Addr} {xs : List α} (h : Held w w.heap.size k enc A xs) (e : Ext w w') : Held w' w'.heap.size k enc A xs := (h.kept e (Nat.le_refl _)).wider e.size
theorem HeldRows.ext {w w' : World} {A : Option Addr} {xs : List (List Int)} (h : HeldRows w w.heap.size A xs) (e : Ext w w') : HeldRows w' w'.heap.size A xs := (HeldRows.kept h e (Nat.le_refl _)).wider e.size
theorem row_ext {w w' : World} {g : Nat} {o : Obj} (h : w.heap[g]? = some o) (e : Ext w w') : w'.heap[g]? = some o := (Below.block e g (Array.getElem?_eq_some_iff.1 h).1).trans h

/-- A variable at p that holds an example bath. -/
structure ExAt (W : World) (p : Nat) (A : Option Addr) (A' : Option Addr) (k : Nat) (ds : List (Int × Int × Int)) : Prop where
  row : W.heap[p]? = some (.cells #[.int .i64 100, .slice A 3 3, .slice A' k k] 25 (0, 0))
  bath : IsBath W W.heap.size A 3 3 A' k k exS ds
theorem ExAt.ext {W W' : World} {p : Nat} {A A' : Option Addr} {k : Nat} {ds : List (Int × Int × Int)} (h : ExAt W p A A' k ds) (e : Ext W W') : ExAt W' p A A' k ds :=
  ⟨row_ext h.row e, (h.bath.kept e (Nat.le_refl _)).wider e.size⟩

section
variable {W : World} {A A' : Option Addr}
theorem exc_size (h : IsBath W W.heap.size A 3 3 A' 4 4 exS exB) : Calls Try.prog 17 #[.agg #[.int .i64 100, .slice A 3 3, .slice A' 4 4], .int .i64 0] W fun e w' => e = .returned (.tuple #[.agg #[.int .i64 300, .int .i64 444], .int .i64 0]) ∧ Ext W w' := by
  have := size_any (Wd := 100) 0 h
  rw [ex_size] at this
  exact this
theorem exc_sizeC (h : IsBath W W.heap.size A 3 3 A' 2 2 exS exC) : Calls Try.prog 17 #[.agg #[.int .i64 100, .slice A 3 3, .slice A' 2 2], .int .i64 1] W fun e w' => e = .returned (.tuple #[.agg #[.int .i64 0, .int .i64 0], .int .i64 0]) ∧ Ext W w' := by
  have := size_any (Wd := 100) 1 h
  rw [ex_sizeC] at this
  exact this
theorem exc_touch (one two k : Int) (hk : touchAns 100 exS exB one two = (k, 0)) (h : IsBath W W.heap.size A 3 3 A' 4 4 exS exB) : Calls Try.prog 21 #[.agg #[.int .i64 100, .slice A 3 3, .slice A' 4 4], .int .i64 one, .int .i64 two] W fun e w' => e = .returned (.tuple #[.int .i64 k, .int .i64 0]) ∧ Ext W w' := by
  have := touch_any (Wd := 100) one two h
  rw [hk] at this
  exact this
theorem exc_beside (one two k : Int) (hk : besideAns 100 exS exB one two = (k, 0)) (h : IsBath W W.heap.size A 3 3 A' 4 4 exS exB) : Calls Try.prog 23 #[.agg #[.int .i64 100, .slice A 3 3, .slice A' 4 4], .int .i64 one, .int .i64 two] W fun e w' => e = .returned (.tuple #[.int .i64 k, .int .i64 0]) ∧ Ext W w' := by
  have := beside_any (Wd := 100) one two h
  rw [hk] at this
  exact this
theorem exc_first (one two lo hi e0 : Int) (he : forErr 100 exS exB one two = 0) (hk : firstAns 100 exS exB one two = ((lo, hi), e0)) (h : IsBath W W.heap.size A 3 3 A' 4 4 exS exB) : Calls Try.prog 25 #[.agg #[.int .i64 100, .slice A 3 3, .slice A' 4 4], .int .i64 one, .int .i64 two] W fun e w' => e = .returned (.tuple #[.agg #[.int .i64 lo, .int .i64 hi], .int .i64 e0]) ∧ Ext W w' := by
  have := first_ok (Wd := 100) one two h he
  rw [hk] at this
  exact this
theorem exc_full (h : IsBath W W.heap.size A 3 3 A' 4 4 exS exB) : Calls Try.prog 27 #[.agg #[.int .i64 100, .slice A 3 3, .slice A' 4 4], .int .i64 2] W fun e w' => e = .returned (.tuple #[.int .i64 0, .int .i64 10]) ∧ Ext W w' := by
  refine (room_any (Wd := 100) 2 h).mono ?_
  rintro e w' ⟨hi, hb⟩
  refine ⟨?_, hb⟩
  unfold RoomIs at hi
  rw [if_pos ex_fine, if_pos (by kernel_rfl), if_neg (by rw [show freeB 100 exS (sizes exB) exS.length 2 = false from ex_full]; simp)] at hi
  exact hi
theorem exc_room (s : Nat) (n : Int) (hs : (decide (0 ≤ (s : Int)) && decide ((s : Int) < (exS.length : Int))) = true) (hf : freeB 100 exS (sizes exC) 3 s = true) (hr : ∀ r : Nat, Begins (tooFar 100 exS (sizes exC) 3 s) 10000 r → (r : Int) = n) (h : IsBath W W.heap.size A 3 3 A' 2 2 exS exC) :
    Calls Try.prog 27 #[.agg #[.int .i64 100, .slice A 3 3, .slice A' 2 2], .int .i64 s] W fun e w' => e = .returned (.tuple #[.int .i64 n, .int .i64 0]) ∧ Ext W w' := by
  refine (room_any (Wd := 100) s h).mono ?_
  rintro e w' ⟨hi, hb⟩
  refine ⟨?_, hb⟩
  unfold RoomIs at hi
  rw [if_pos ex_fineC, if_pos hs, if_pos (show freeB 100 exS (sizes exC) exS.length s = true from hf)] at hi
  obtain ⟨r, he, hB⟩ := hi
  rw [Int.toNat_natCast] at hB
  rw [he, hr r hB]
theorem exc_way (h : IsBath W W.heap.size A 3 3 A' 4 4 exS exB) : Calls Try.prog 29 #[.agg #[.int .i64 100, .slice A 3 3, .slice A' 4 4], .int .i64 (-1), .int .i64 2, .bool false] W fun e w' => (∃ B c, e = .returned (.tuple #[.slice B 4 c, .int .i64 0]) ∧ Held w' w'.heap.size 1 encI B [-1, 0, 1, 2]) ∧ Ext W w' := by
  refine (bigWay_any (Wd := 100) (-1) 2 false h).mono ?_
  rintro e w' ⟨hb, h1 | h1 | h1⟩
  · exact absurd ex_forW h1.1
  · exact absurd h1.2.1 ex_outs
  · obtain ⟨_, _, B, l, c, rfl, _, hh, hl⟩ := h1
    have e1 : l = [1, 2, 3, 4] := hl.trans ex_wayOf
    subst e1
    exact ⟨⟨B, c, rfl, hh⟩, hb⟩
theorem exc_noway (h : IsBath W W.heap.size A 3 3 A' 4 4 exS exB) : Calls Try.prog 29 #[.agg #[.int .i64 100, .slice A 3 3, .slice A' 4 4], .int .i64 (-1), .int .i64 2, .bool true] W fun e w' => e = .returned (.tuple #[.slice none 0 0, .int .i64 5]) ∧ Ext W w' := by
  refine (bigWay_any (Wd := 100) (-1) 2 true h).mono ?_
  rintro e w' ⟨hb, h1 | h1 | h1⟩
  · exact absurd ex_forW h1.1
  · exact ⟨h1.2.2, hb⟩
  · exact absurd ex_outs2 h1.2.1

theorem exT_lt (sure : Bool) (i j : Nat) (h : tableOf 100 exS exB sure i j = true) : i < 5 ∧ j < 5 ∧ i ≠ j := tableOf_lt i j h
theorem ex_goesB (sure : Bool) : goesB (tableOf 100 exS exB sure) 2 = goesC (tableOf 100 exS exB sure) 5 2 :=
  goesB_goesC (n := 5) (by omega) (by omega) (exT_lt sure) (fun i j => tableOf_sym i j) (by omega)

/-- A list that the program made, as the walk of a law reads it. -/
theorem owns_cells {base n : Nat} {ty : TypeId} {v : Value} {cells : List Value} {W : World} (h : W.ownsRow base ty 1 v n cells) (hn : n ≠ 0) :
    ∃ g cap, v = .slice (some ⟨g, 0, none⟩) n cap ∧ g < W.heap.size ∧ ∀ (j : Nat) (x : Value), j < n → cells[j]? = some x → W.cell? ⟨g, j, none⟩ = some x := by
  rcases h.2 with ⟨_, e⟩ | ⟨g, cap, cur, e, hg, hc, h1, h2, h3, h4⟩
  · exact absurd e hn
  · refine ⟨g, cap, e, (Array.getElem?_eq_some_iff.1 hc).1, fun j x hj hx => (cell_of_row _ _ _ _ _ _ hc).trans ?_⟩
    rw [← h4, List.getElem?_take, if_pos (by omega)] at hx
    simpa using hx
theorem made_held {base : Nat} {xs : List Int} {w : World} {v : Value} (h : MadeInts base xs w v) (hx : xs ≠ []) : ∃ B c, v = .slice B xs.length c ∧ Held w w.heap.size 1 encI B xs := by
  obtain ⟨g, cap, e, hg, hc⟩ := owns_cells h.1 (fun e => hx (List.eq_nil_of_length_eq_zero e))
  refine ⟨_, cap, e, .inr ⟨g, 0, rfl, hg, fun j x hj i u hu => ?_⟩⟩
  match i, hu with
  | 0, hu =>
    simp only [encI, List.getElem?_cons_zero, Option.some.injEq] at hu
    subst hu
    rw [Nat.zero_add, Nat.mul_one, Nat.add_zero]
    exact hc j _ (List.getElem?_eq_some_iff.1 hj).1 (by rw [List.getElem?_map, hj]; rfl)
theorem groups_held {base : Nat} {gs : List (Value × List Int)} {w : World} {v : Value} {xss : List (List Int)} (h : GroupsAt base gs w v) (hg : gs.map (·.2) = xss) (hx : xss ≠ []) (hxs : ∀ xs, xs ∈ xss → xs ≠ []) (hl : ∀ xs, xs ∈ xss → xs.length ≤ 9223372036854775807) :
    ∃ B c, v = .slice B xss.length c ∧ HeldRows w w.heap.size B xss := by
  subst hg
  obtain ⟨g, cap, e, hgl, hc⟩ := owns_cells h.row (fun e => hx (by rw [List.eq_nil_of_length_eq_zero e]; rfl))
  refine ⟨_, cap, by rw [List.length_map]; exact e, .inr ⟨g, 0, rfl, hgl, fun j xs hj => ?_⟩⟩
  rw [List.getElem?_map, Option.map_eq_some_iff] at hj
  obtain ⟨p, hp, rfl⟩ := hj
  have hm := List.mem_of_getElem? hp
  obtain ⟨B, c, e2, hh⟩ := made_held (h.each p hm) (hxs _ (List.mem_map_of_mem hm))
  refine ⟨B, c, ?_, hh, hl _ (List.mem_map_of_mem hm)⟩
  rw [Nat.zero_add, ← e2]
  exact hc j _ (List.getElem?_eq_some_iff.1 hp).1 (by rw [List.getElem?_map, hp]; rfl)

theorem exc_side (sure : Bool) (two : Int) (xs : List Int) (hx : xs ≠ []) (he : forErr 100 exS exB 0 two = 0) (hn : goesC (tableOf 100 exS exB sure) 5 2 (two + 2).toNat = false) (hl : listTo (goesC (tableOf 100 exS exB sure) 5 2) 12 = xs)
    (h : IsBath W W.heap.size A 3 3 A' 4 4 exS exB) : Calls Try.prog 34 #[.agg #[.int .i64 100, .slice A 3 3, .slice A' 4 4], .int .i64 0, .int .i64 two, .bool sure] W fun e w' => (∃ B c, e = .returned (.tuple #[.slice B xs.length c, .int .i64 0]) ∧ Held w' w'.heap.size 1 encI B xs) ∧ Ext W w' := by
  refine (side_any (Wd := 100) 0 two sure h).mono ?_
  intro e w' hp
  obtain ⟨hb, h1 | h1 | h1⟩ := side_reach hp
  · exact absurd he h1.1
  · exfalso
    have := h1.2.1
    rw [show ((0 : Int) + 2).toNat = 2 from rfl, ex_goesB, hn] at this
    cases this
  · obtain ⟨_, _, v, rfl, hm⟩ := h1
    rw [show ((0 : Int) + 2).toNat = 2 from rfl, ex_goesB, hl] at hm
    obtain ⟨B, c, rfl, hh⟩ := made_held hm hx
    exact ⟨⟨B, c, rfl, hh⟩, hb⟩
theorem exc_have (h : IsBath W W.heap.size A 3 3 A' 4 4 exS exB) : Calls Try.prog 34 #[.agg #[.int .i64 100, .slice A 3 3, .slice A' 4 4], .int .i64 0, .int .i64 2, .bool false] W fun e w' => e = .returned (.tuple #[.slice none 0 0, .int .i64 11]) ∧ Ext W w' := by
  refine (side_any (Wd := 100) 0 2 false h).mono ?_
  intro e w' hp
  obtain ⟨hb, h1 | h1 | h1⟩ := side_reach hp
  · exact absurd ex_for02 h1.1
  · exact ⟨h1.2.2, hb⟩
  · exfalso
    have := h1.2.1
    rw [show ((0 : Int) + 2).toNat = 2 from rfl, ex_goesB, show ((2 : Int) + 2).toNat = 4 from rfl, ex_goes2] at this
    cases this
theorem exc_groups (sure : Bool) (xss : List (List Int)) (hx : xss ≠ []) (hxs : ∀ xs, xs ∈ xss → xs ≠ []) (hl : ∀ xs, xs ∈ xss → xs.length ≤ 9223372036854775807) (hg : groupsC 5 (sizes exB) (tableOf 100 exS exB sure) = xss) (h : IsBath W W.heap.size A 3 3 A' 4 4 exS exB) :
    Calls Try.prog 36 #[.agg #[.int .i64 100, .slice A 3 3, .slice A' 4 4], .bool sure] W fun e w' => (∃ B c, e = .returned (.tuple #[.slice B xss.length c, .int .i64 0]) ∧ HeldRows w' w'.heap.size B xss) ∧ Ext W w' := by
  refine (groups_any (Wd := 100) sure h).mono ?_
  rintro e w' ⟨hb, h1 | ⟨_, v, gs, rfl, hG, hgs⟩⟩
  · exact absurd ex_fine h1.1
  · have e1 : groupsOf (sizes exB) (tableOf 100 exS exB sure) (List.finRange (exS.length + 2)) = xss := (groupsOf_C (n := 5) (sizes exB) (by omega) (by omega) (exT_lt sure) (fun i j => tableOf_sym i j)).trans hg
    rw [e1] at hgs
    obtain ⟨B, c, rfl, hh⟩ := groups_held hG hgs hx hxs hl
    exact ⟨⟨B, c, rfl, hh⟩, hb⟩
theorem exc_checkWay (L : Option Addr) (hh : Held W W.heap.size 1 encI L [0, 1, 2]) (h : IsBath W W.heap.size A 3 3 A' 4 4 exS exB) : Calls Try.prog 32 #[.agg #[.int .i64 100, .slice A 3 3, .slice A' 4 4], .slice L 3 3, .bool true] W fun e w' => e = .returned (.int .i64 17) ∧ Ext W w' := by
  have := checkWay_any (Wd := 100) L 3 3 [0, 1, 2] true h rfl (by omega) hh
  rw [ex_way] at this
  exact this
theorem exc_checkSide (L : Option Addr) (hh : Held W W.heap.size 1 encI L [0]) (h : IsBath W W.heap.size A 3 3 A' 4 4 exS exB) : Calls Try.prog 39 #[.agg #[.int .i64 100, .slice A 3 3, .slice A' 4 4], .int .i64 0, .int .i64 2, .slice L 1 1, .bool true] W fun e w' => e = .returned (.int .i64 14) ∧ Ext W w' := by
  have := checkSide_any (Wd := 100) 0 2 L 1 1 [0] true h rfl (by omega) hh
  rw [ex_side] at this
  exact this
end
end Go.Proofs.Ytckndnaohggmhaa

/- The last statement of Works: what each of its operations yields. -/
namespace Go.Proofs.Ytckndnaohggmhaa
open Go.RowKit Go.Shelf

theorem held_ints {W : World} {g : Nat} {cs : Array Value} {fr : TypeId} (xs : List Int) (h : W.heap[g]? = some (.cells cs fr (0, 0))) (hcs : cs = (xs.map (Value.int .i64)).toArray) : Held W W.heap.size 1 encI (some ⟨g, 0, none⟩) xs :=
  held_row h (Array.getElem?_eq_some_iff.1 h).1 fun j x hj i v hi => by
    match i, hi with
    | 0, hi =>
      simp only [encI, List.getElem?_cons_zero, Option.some.injEq] at hi
      subst hi
      rw [Nat.mul_one, Nat.add_zero, hcs]
      simp [hj]

def D39 (i : Nat) : Tmp := if i = 39 then 0 else 151 + i
theorem rows4 {W : World} {g l32 l33 l34 l35 : Nat} (h : W.heap[g]? = some (.cells #[.slice (some ⟨l32, 0, none⟩) 1 1, .slice (some ⟨l33, 0, none⟩) 1 1, .slice (some ⟨l34, 0, none⟩) 2 2, .slice (some ⟨l35, 0, none⟩) 1 1] 42 (0, 0)))
    (h0 : Held W W.heap.size 1 encI (some ⟨l32, 0, none⟩) [-2]) (h1 : Held W W.heap.size 1 encI (some ⟨l33, 0, none⟩) [-1]) (h2 : Held W W.heap.size 1 encI (some ⟨l34, 0, none⟩) [0, 1]) (h3 : Held W W.heap.size 1 encI (some ⟨l35, 0, none⟩) [2]) :
    HeldRows W W.heap.size (some ⟨g, 0, none⟩) [[-2], [-1], [0, 1], [2]] :=
  .inr ⟨g, 0, rfl, (Array.getElem?_eq_some_iff.1 h).1, fun j xs hj => by
    match j, hj with
    | 0, hj => cases hj; exact ⟨_, _, cell_of_row _ _ _ _ _ _ h, h0, by simp⟩
    | 1, hj => cases hj; exact ⟨_, _, cell_of_row _ _ _ _ _ _ h, h1, by simp⟩
    | 2, hj => cases hj; exact ⟨_, _, cell_of_row _ _ _ _ _ _ h, h2, by simp⟩
    | 3, hj => cases hj; exact ⟨_, _, cell_of_row _ _ _ _ _ _ h, h3, by simp⟩⟩

/-- A list that was laid out as it stands in the text. -/
def Lit (xs : List Int) (v : Value) (W : World) : Prop := ∃ g, v = .slice (some ⟨g, 0, none⟩) xs.length xs.length ∧ Held W W.heap.size 1 encI (some ⟨g, 0, none⟩) xs
theorem Lit.ext {xs : List Int} {v : Value} {W W' : World} (h : Lit xs v W) (e : Ext W W') : Lit xs v W' := by
  obtain ⟨g, rfl, hh⟩ := h
  exact ⟨g, rfl, hh.ext e⟩
/-- What each operation of the last statement of Works yields. -/
def worksS (B1 : Option Addr) (c1 : Nat) (B2 : Option Addr) (c2 : Nat) (B3 : Option Addr) (c3 : Nat) (i : Nat) (v : Value) (W : World) : Prop :=
  match i with
  | 0 => v = .agg #[.int .i64 300, .int .i64 444]
  | 1 => v = .agg #[.int .i64 300, .int .i64 444]
  | 4 => v = .int .i64 1
  | 8 => v = .int .i64 2
  | 12 => v = .agg #[.int .i64 2, .int .i64 3]
  | 13 => v = .agg #[.int .i64 2, .int .i64 3]
  | 17 => v = .int .i64 323
  | 21 => v = .slice B1 4 c1
  | 22 => Lit [-1, 0, 1, 2] v W
  | 26 => v = .slice B2 2 c2
  | 27 => Lit [0, 1] v W
  | 31 => v = .slice B3 4 c3
  | 32 => Lit [-2] v W
  | 33 => Lit [-1] v W
  | 34 => Lit [0, 1] v W
  | 35 => Lit [2] v W
  | 36 => ∃ g, v = .slice (some ⟨g, 0, none⟩) 4 4 ∧ HeldRows W W.heap.size (some ⟨g, 0, none⟩) [[-2], [-1], [0, 1], [2]]
  | _ => v = .bool true
theorem worksS_ext (B1 : Option Addr) (c1 : Nat) (B2 : Option Addr) (c2 : Nat) (B3 : Option Addr) (c3 : Nat) (i : Nat) (v : Value) (W W' : World) (h : worksS B1 c1 B2 c2 B3 c3 i v W) (e : Below W.heap.size W W') : worksS B1 c1 B2 c2 B3 c3 i v W' := by
  unfold worksS at h ⊢
  split at h <;> first | exact h | exact Lit.ext h e | (obtain ⟨g, rfl, hh⟩ := h; exact ⟨g, rfl, hh.ext e⟩)

/-- The k-th region of a body. -/
def regionOf : Code → Nat → Option (Array Oper)
  | .region i ops _, k => if i = k then some ops else none
  | .seq a b, k => (regionOf a k).or (regionOf b k)
  | .cond _ a b, k => (regionOf a k).or (regionOf b k)
  | .block _ c, k => regionOf c k
  | .loop c, k => regionOf c k
  | .scope c, k => regionOf c k
  | _, _ => none
noncomputable def reg18 : Array Oper := (Try.f16.body.bind (regionOf · 18)).getD #[]
theorem op_at {ops : Array Oper} {i : Nat} {o : Oper} {α : Type} (ho : ops[i]? = some o) (f : Oper → α) {x : α} (h : (ops[i]?).map f = some x) : f o = x := by
  rw [ho] at h
  simpa using h
theorem ev {a : Act} {t : Tmp} {v : Value} (h : a.eval (.tmp t) = v) : a.tmps[t]?.getD undef = v := by simpa [Act.eval] using h
/-- The operation i of the statement does what it is to do. -/
def WorksOk (B1 : Option Addr) (c1 : Nat) (B2 : Option Addr) (c2 : Nat) (B3 : Option Addr) (c3 : Nat) (Q : Exit → Act → World → Prop) (a : Act) (W : World) (i : Nat) (o : Oper) : Prop :=
  (∀ j b, o.guard = some (j, b) → a.eval (.tmp (D39 j)) = .bool b) ∧ o.wp Try.prog a W (fun a'' W' => ∃ v, a'' = a.put o.dst v ∧ worksS B1 c1 B2 c2 B3 c3 i v W' ∧ Below W.heap.size W W') Q

section
variable {B1 B2 B3 : Option Addr} {c1 c2 c3 p3 p4 : Nat} {Q : Exit → Act → World → Prop} {a : Act} {V W : World} {o : Oper}
theorem works_op0 (r3 : V.heap[p3]? = some (.cells #[.int .i64 300, .int .i64 444] 29 (0, 0))) (o3 : a.eval (.tmp 3) = .pointer (some ⟨p3, 0, none⟩)) (ho : reg18[0]? = some o) (hB : Ext V W) (_haft : ∀ j, (o.after.any fun e => decide (e.on = j) && Region.binds .any e) = true → worksS B1 c1 B2 c2 B3 c3 j (a.eval (.tmp (D39 j))) W) : WorksOk B1 c1 B2 c2 B3 c3 Q a W 0 o := by
  have hop := op_at ho (·.op) (x := .load 29 (.tmp 3)) (by kernel_rfl)
  have hgd := op_at ho (·.guard) (x := none) (by kernel_rfl)
  refine ⟨fun j b h => (by rw [hgd] at h; cases h), ?_⟩
  have hl0 : W.cell? ⟨p3, 0, none⟩ = some (.int .i64 300) := cell_of_row _ _ 0 _ _ _ (row_ext r3 hB)
  have hl1 : W.cell? ⟨p3, 1, none⟩ = some (.int .i64 444) := cell_of_row _ _ 1 _ _ _ (row_ext r3 hB)
  exact specs_value (R := worksS B1 c1 B2 c2 B3 c3 0) (v := .agg #[.int .i64 300, .int .i64 444]) (by simp [execOp, hop, go_sem, ev o3, hl0, hl1]) rfl (Ext.refl W)
theorem works_op1 (ho : reg18[1]? = some o) (_hB : Ext V W) (_haft : ∀ j, (o.after.any fun e => decide (e.on = j) && Region.binds .any e) = true → worksS B1 c1 B2 c2 B3 c3 j (a.eval (.tmp (D39 j))) W) : WorksOk B1 c1 B2 c2 B3 c3 Q a W 1 o := by
  have hop := op_at ho (·.op) (x := .call { callee := .value (.func 57), args := #[.const (.int .i64 300), .const (.int .i64 444)], argTypes := #[2, 2] }) (by kernel_rfl)
  have hgd := op_at ho (·.guard) (x := none) (by kernel_rfl)
  refine ⟨fun j b h => (by rw [hgd] at h; cases h), ?_⟩
  exact specs_call (R := worksS B1 c1 B2 c2 B3 c3 1) (f := 57) (args := #[.int .i64 300, .int .i64 444]) (by simp [execOp, hop, go_sem]) ((rg_any 300 444 W).mono fun e w' h => ⟨_, h.1, rfl, h.2⟩)
theorem works_op2 (ho : reg18[2]? = some o) (_hB : Ext V W) (haft : ∀ j, (o.after.any fun e => decide (e.on = j) && Region.binds .any e) = true → worksS B1 c1 B2 c2 B3 c3 j (a.eval (.tmp (D39 j))) W) : WorksOk B1 c1 B2 c2 B3 c3 Q a W 2 o := by
  have hop := op_at ho (·.op) (x := .binOp .eql 29 (.tmp 151) (.tmp 152) 29) (by kernel_rfl)
  have hgd := op_at ho (·.guard) (x := none) (by kernel_rfl)
  have e0 : a.eval (.tmp 151) = .agg #[.int .i64 300, .int .i64 444] := haft 0 (op_at ho (fun o => o.after.any fun e => decide (e.on = 0) && Region.binds .any e) (x := true) (by kernel_rfl))
  have e1 : a.eval (.tmp 152) = .agg #[.int .i64 300, .int .i64 444] := haft 1 (op_at ho (fun o => o.after.any fun e => decide (e.on = 1) && Region.binds .any e) (x := true) (by kernel_rfl))
  refine ⟨fun j b h => (by rw [hgd] at h; cases h), ?_⟩
  exact specs_value (R := worksS B1 c1 B2 c2 B3 c3 2) (v := .bool true) (by simp [execOp, hop, go_sem, ev e0, ev e1]) rfl (Ext.refl W)
theorem works_op3 (ho : reg18[3]? = some o) (_hB : Ext V W) (haft : ∀ j, (o.after.any fun e => decide (e.on = j) && Region.binds .any e) = true → worksS B1 c1 B2 c2 B3 c3 j (a.eval (.tmp (D39 j))) W) : WorksOk B1 c1 B2 c2 B3 c3 Q a W 3 o := by
  have hop := op_at ho (·.op) (x := .move (.tmp 153)) (by kernel_rfl)
  have hgd := op_at ho (·.guard) (x := none) (by kernel_rfl)
  have e2 : a.eval (.tmp 153) = .bool true := haft 2 (op_at ho (fun o => o.after.any fun e => decide (e.on = 2) && Region.binds .any e) (x := true) (by kernel_rfl))
  refine ⟨fun j b h => (by rw [hgd] at h; cases h), ?_⟩
  exact specs_value (R := worksS B1 c1 B2 c2 B3 c3 3) (v := .bool true) (by simp [execOp, hop, go_sem, ev e2]) rfl (Ext.refl W)
theorem works_op4 (o5 : a.eval (.tmp 5) = .int .i64 1) (ho : reg18[4]? = some o) (_hB : Ext V W) (haft : ∀ j, (o.after.any fun e => decide (e.on = j) && Region.binds .any e) = true → worksS B1 c1 B2 c2 B3 c3 j (a.eval (.tmp (D39 j))) W) : WorksOk B1 c1 B2 c2 B3 c3 Q a W 4 o := by
  have hop := op_at ho (·.op) (x := .move (.tmp 5)) (by kernel_rfl)
  have hgd := op_at ho (·.guard) (x := some (3, true)) (by kernel_rfl)
  have e3 : a.eval (.tmp 154) = .bool true := haft 3 (op_at ho (fun o => o.after.any fun e => decide (e.on = 3) && Region.binds .any e) (x := true) (by kernel_rfl))
  refine ⟨fun j b h => (by rw [hgd] at h; cases h; exact e3), ?_⟩
  exact specs_value (R := worksS B1 c1 B2 c2 B3 c3 4) (v := .int .i64 1) (by simp [execOp, hop, go_sem, ev o5]) rfl (Ext.refl W)
theorem works_op5 (ho : reg18[5]? = some o) (_hB : Ext V W) (haft : ∀ j, (o.after.any fun e => decide (e.on = j) && Region.binds .any e) = true → worksS B1 c1 B2 c2 B3 c3 j (a.eval (.tmp (D39 j))) W) : WorksOk B1 c1 B2 c2 B3 c3 Q a W 5 o := by
  have hop := op_at ho (·.op) (x := .binOp .eql 3 (.tmp 155) (.const (.int .i64 1)) 3) (by kernel_rfl)
  have hgd := op_at ho (·.guard) (x := some (3, true)) (by kernel_rfl)
  have e4 : a.eval (.tmp 155) = .int .i64 1 := haft 4 (op_at ho (fun o => o.after.any fun e => decide (e.on = 4) && Region.binds .any e) (x := true) (by kernel_rfl))
  have e3 : a.eval (.tmp 154) = .bool true := haft 3 (op_at ho (fun o => o.after.any fun e => decide (e.on = 3) && Region.binds .any e) (x := true) (by kernel_rfl))
  refine ⟨fun j b h => (by rw [hgd] at h; cases h; exact e3), ?_⟩
  exact specs_value (R := worksS B1 c1 B2 c2 B3 c3 5) (v := .bool true) (by simp [execOp, hop, go_sem, ev e4]) rfl (Ext.refl W)
theorem works_op6 (ho : reg18[6]? = some o) (_hB : Ext V W) (haft : ∀ j, (o.after.any fun e => decide (e.on = j) && Region.binds .any e) = true → worksS B1 c1 B2 c2 B3 c3 j (a.eval (.tmp (D39 j))) W) : WorksOk B1 c1 B2 c2 B3 c3 Q a W 6 o := by
  have hop := op_at ho (·.op) (x := .pick (.tmp 154) (.tmp 156) (.const (.bool false))) (by kernel_rfl)
  have hgd := op_at ho (·.guard) (x := none) (by kernel_rfl)
  have e3 : a.eval (.tmp 154) = .bool true := haft 3 (op_at ho (fun o => o.after.any fun e => decide (e.on = 3) && Region.binds .any e) (x := true) (by kernel_rfl))
  have e5 : a.eval (.tmp 156) = .bool true := haft 5 (op_at ho (fun o => o.after.any fun e => decide (e.on = 5) && Region.binds .any e) (x := true) (by kernel_rfl))
  refine ⟨fun j b h => (by rw [hgd] at h; cases h), ?_⟩
  exact specs_value (R := worksS B1 c1 B2 c2 B3 c3 6) (v := .bool true) (by simp [execOp, hop, go_sem, ev e3, ev e5]) rfl (Ext.refl W)
theorem works_op7 (ho : reg18[7]? = some o) (_hB : Ext V W) (haft : ∀ j, (o.after.any fun e => decide (e.on = j) && Region.binds .any e) = true → worksS B1 c1 B2 c2 B3 c3 j (a.eval (.tmp (D39 j))) W) : WorksOk B1 c1 B2 c2 B3 c3 Q a W 7 o := by
  have hop := op_at ho (·.op) (x := .move (.tmp 157)) (by kernel_rfl)
  have hgd := op_at ho (·.guard) (x := none) (by kernel_rfl)
  have e6 : a.eval (.tmp 157) = .bool true := haft 6 (op_at ho (fun o => o.after.any fun e => decide (e.on = 6) && Region.binds .any e) (x := true) (by kernel_rfl))
  refine ⟨fun j b h => (by rw [hgd] at h; cases h), ?_⟩
  exact specs_value (R := worksS B1 c1 B2 c2 B3 c3 7) (v := .bool true) (by simp [execOp, hop, go_sem, ev e6]) rfl (Ext.refl W)
theorem works_op8 (o7 : a.eval (.tmp 7) = .int .i64 2) (ho : reg18[8]? = some o) (_hB : Ext V W) (haft : ∀ j, (o.after.any fun e => decide (e.on = j) && Region.binds .any e) = true → worksS B1 c1 B2 c2 B3 c3 j (a.eval (.tmp (D39 j))) W) : WorksOk B1 c1 B2 c2 B3 c3 Q a W 8 o := by
  have hop := op_at ho (·.op) (x := .move (.tmp 7)) (by kernel_rfl)
  have hgd := op_at ho (·.guard) (x := some (7, true)) (by kernel_rfl)
  have e7 : a.eval (.tmp 158) = .bool true := haft 7 (op_at ho (fun o => o.after.any fun e => decide (e.on = 7) && Region.binds .any e) (x := true) (by kernel_rfl))
  refine ⟨fun j b h => (by rw [hgd] at h; cases h; exact e7), ?_⟩
  exact specs_value (R := worksS B1 c1 B2 c2 B3 c3 8) (v := .int .i64 2) (by simp [execOp, hop, go_sem, ev o7]) rfl (Ext.refl W)
theorem works_op9 (ho : reg18[9]? = some o) (_hB : Ext V W) (haft : ∀ j, (o.after.any fun e => decide (e.on = j) && Region.binds .any e) = true → worksS B1 c1 B2 c2 B3 c3 j (a.eval (.tmp (D39 j))) W) : WorksOk B1 c1 B2 c2 B3 c3 Q a W 9 o := by
  have hop := op_at ho (·.op) (x := .binOp .eql 3 (.tmp 159) (.const (.int .i64 2)) 3) (by kernel_rfl)
  have hgd := op_at ho (·.guard) (x := some (7, true)) (by kernel_rfl)
  have e8 : a.eval (.tmp 159) = .int .i64 2 := haft 8 (op_at ho (fun o => o.after.any fun e => decide (e.on = 8) && Region.binds .any e) (x := true) (by kernel_rfl))
  have e7 : a.eval (.tmp 158) = .bool true := haft 7 (op_at ho (fun o => o.after.any fun e => decide (e.on = 7) && Region.binds .any e) (x := true) (by kernel_rfl))
  refine ⟨fun j b h => (by rw [hgd] at h; cases h; exact e7), ?_⟩
  exact specs_value (R := worksS B1 c1 B2 c2 B3 c3 9) (v := .bool true) (by simp [execOp, hop, go_sem, ev e8]) rfl (Ext.refl W)
theorem works_op10 (ho : reg18[10]? = some o) (_hB : Ext V W) (haft : ∀ j, (o.after.any fun e => decide (e.on = j) && Region.binds .any e) = true → worksS B1 c1 B2 c2 B3 c3 j (a.eval (.tmp (D39 j))) W) : WorksOk B1 c1 B2 c2 B3 c3 Q a W 10 o := by
  have hop := op_at ho (·.op) (x := .pick (.tmp 158) (.tmp 160) (.const (.bool false))) (by kernel_rfl)
  have hgd := op_at ho (·.guard) (x := none) (by kernel_rfl)
  have e7 : a.eval (.tmp 158) = .bool true := haft 7 (op_at ho (fun o => o.after.any fun e => decide (e.on = 7) && Region.binds .any e) (x := true) (by kernel_rfl))
  have e9 : a.eval (.tmp 160) = .bool true := haft 9 (op_at ho (fun o => o.after.any fun e => decide (e.on = 9) && Region.binds .any e) (x := true) (by kernel_rfl))
  refine ⟨fun j b h => (by rw [hgd] at h; cases h), ?_⟩
  exact specs_value (R := worksS B1 c1 B2 c2 B3 c3 10) (v := .bool true) (by simp [execOp, hop, go_sem, ev e7, ev e9]) rfl (Ext.refl W)
theorem works_op11 (ho : reg18[11]? = some o) (_hB : Ext V W) (haft : ∀ j, (o.after.any fun e => decide (e.on = j) && Region.binds .any e) = true → worksS B1 c1 B2 c2 B3 c3 j (a.eval (.tmp (D39 j))) W) : WorksOk B1 c1 B2 c2 B3 c3 Q a W 11 o := by
  have hop := op_at ho (·.op) (x := .move (.tmp 161)) (by kernel_rfl)
  have hgd := op_at ho (·.guard) (x := none) (by kernel_rfl)
  have e10 : a.eval (.tmp 161) = .bool true := haft 10 (op_at ho (fun o => o.after.any fun e => decide (e.on = 10) && Region.binds .any e) (x := true) (by kernel_rfl))
  refine ⟨fun j b h => (by rw [hgd] at h; cases h), ?_⟩
  exact specs_value (R := worksS B1 c1 B2 c2 B3 c3 11) (v := .bool true) (by simp [execOp, hop, go_sem, ev e10]) rfl (Ext.refl W)
theorem works_op12 (r4 : V.heap[p4]? = some (.cells #[.int .i64 2, .int .i64 3] 29 (0, 0))) (o9 : a.eval (.tmp 9) = .pointer (some ⟨p4, 0, none⟩)) (ho : reg18[12]? = some o) (hB : Ext V W) (haft : ∀ j, (o.after.any fun e => decide (e.on = j) && Region.binds .any e) = true → worksS B1 c1 B2 c2 B3 c3 j (a.eval (.tmp (D39 j))) W) : WorksOk B1 c1 B2 c2 B3 c3 Q a W 12 o := by
  have hop := op_at ho (·.op) (x := .load 29 (.tmp 9)) (by kernel_rfl)
  have hgd := op_at ho (·.guard) (x := some (11, true)) (by kernel_rfl)
  have e11 : a.eval (.tmp 162) = .bool true := haft 11 (op_at ho (fun o => o.after.any fun e => decide (e.on = 11) && Region.binds .any e) (x := true) (by kernel_rfl))
  refine ⟨fun j b h => (by rw [hgd] at h; cases h; exact e11), ?_⟩
  have hl0 : W.cell? ⟨p4, 0, none⟩ = some (.int .i64 2) := cell_of_row _ _ 0 _ _ _ (row_ext r4 hB)
  have hl1 : W.cell? ⟨p4, 1, none⟩ = some (.int .i64 3) := cell_of_row _ _ 1 _ _ _ (row_ext r4 hB)
  exact specs_value (R := worksS B1 c1 B2 c2 B3 c3 12) (v := .agg #[.int .i64 2, .int .i64 3]) (by simp [execOp, hop, go_sem, ev o9, hl0, hl1]) rfl (Ext.refl W)
theorem works_op13 (ho : reg18[13]? = some o) (_hB : Ext V W) (haft : ∀ j, (o.after.any fun e => decide (e.on = j) && Region.binds .any e) = true → worksS B1 c1 B2 c2 B3 c3 j (a.eval (.tmp (D39 j))) W) : WorksOk B1 c1 B2 c2 B3 c3 Q a W 13 o := by
  have hop := op_at ho (·.op) (x := .call { callee := .value (.func 57), args := #[.const (.int .i64 2), .const (.int .i64 3)], argTypes := #[2, 2] }) (by kernel_rfl)
  have hgd := op_at ho (·.guard) (x := some (11, true)) (by kernel_rfl)
  have e11 : a.eval (.tmp 162) = .bool true := haft 11 (op_at ho (fun o => o.after.any fun e => decide (e.on = 11) && Region.binds .any e) (x := true) (by kernel_rfl))
  refine ⟨fun j b h => (by rw [hgd] at h; cases h; exact e11), ?_⟩
  exact specs_call (R := worksS B1 c1 B2 c2 B3 c3 13) (f := 57) (args := #[.int .i64 2, .int .i64 3]) (by simp [execOp, hop, go_sem]) ((rg_any 2 3 W).mono fun e w' h => ⟨_, h.1, rfl, h.2⟩)
theorem works_op14 (ho : reg18[14]? = some o) (_hB : Ext V W) (haft : ∀ j, (o.after.any fun e => decide (e.on = j) && Region.binds .any e) = true → worksS B1 c1 B2 c2 B3 c3 j (a.eval (.tmp (D39 j))) W) : WorksOk B1 c1 B2 c2 B3 c3 Q a W 14 o := by
  have hop := op_at ho (·.op) (x := .binOp .eql 29 (.tmp 163) (.tmp 164) 29) (by kernel_rfl)
  have hgd := op_at ho (·.guard) (x := some (11, true)) (by kernel_rfl)
  have e12 : a.eval (.tmp 163) = .agg #[.int .i64 2, .int .i64 3] := haft 12 (op_at ho (fun o => o.after.any fun e => decide (e.on = 12) && Region.binds .any e) (x := true) (by kernel_rfl))
  have e13 : a.eval (.tmp 164) = .agg #[.int .i64 2, .int .i64 3] := haft 13 (op_at ho (fun o => o.after.any fun e => decide (e.on = 13) && Region.binds .any e) (x := true) (by kernel_rfl))
  have e11 : a.eval (.tmp 162) = .bool true := haft 11 (op_at ho (fun o => o.after.any fun e => decide (e.on = 11) && Region.binds .any e) (x := true) (by kernel_rfl))
  refine ⟨fun j b h => (by rw [hgd] at h; cases h; exact e11), ?_⟩
  exact specs_value (R := worksS B1 c1 B2 c2 B3 c3 14) (v := .bool true) (by simp [execOp, hop, go_sem, ev e12, ev e13]) rfl (Ext.refl W)
theorem works_op15 (ho : reg18[15]? = some o) (_hB : Ext V W) (haft : ∀ j, (o.after.any fun e => decide (e.on = j) && Region.binds .any e) = true → worksS B1 c1 B2 c2 B3 c3 j (a.eval (.tmp (D39 j))) W) : WorksOk B1 c1 B2 c2 B3 c3 Q a W 15 o := by
  have hop := op_at ho (·.op) (x := .pick (.tmp 162) (.tmp 165) (.const (.bool false))) (by kernel_rfl)
  have hgd := op_at ho (·.guard) (x := none) (by kernel_rfl)
  have e11 : a.eval (.tmp 162) = .bool true := haft 11 (op_at ho (fun o => o.after.any fun e => decide (e.on = 11) && Region.binds .any e) (x := true) (by kernel_rfl))
  have e14 : a.eval (.tmp 165) = .bool true := haft 14 (op_at ho (fun o => o.after.any fun e => decide (e.on = 14) && Region.binds .any e) (x := true) (by kernel_rfl))
  refine ⟨fun j b h => (by rw [hgd] at h; cases h), ?_⟩
  exact specs_value (R := worksS B1 c1 B2 c2 B3 c3 15) (v := .bool true) (by simp [execOp, hop, go_sem, ev e11, ev e14]) rfl (Ext.refl W)
theorem works_op16 (ho : reg18[16]? = some o) (_hB : Ext V W) (haft : ∀ j, (o.after.any fun e => decide (e.on = j) && Region.binds .any e) = true → worksS B1 c1 B2 c2 B3 c3 j (a.eval (.tmp (D39 j))) W) : WorksOk B1 c1 B2 c2 B3 c3 Q a W 16 o := by
  have hop := op_at ho (·.op) (x := .move (.tmp 166)) (by kernel_rfl)
  have hgd := op_at ho (·.guard) (x := none) (by kernel_rfl)
  have e15 : a.eval (.tmp 166) = .bool true := haft 15 (op_at ho (fun o => o.after.any fun e => decide (e.on = 15) && Region.binds .any e) (x := true) (by kernel_rfl))
  refine ⟨fun j b h => (by rw [hgd] at h; cases h), ?_⟩
  exact specs_value (R := worksS B1 c1 B2 c2 B3 c3 16) (v := .bool true) (by simp [execOp, hop, go_sem, ev e15]) rfl (Ext.refl W)
theorem works_op17 (o13 : a.eval (.tmp 13) = .int .i64 323) (ho : reg18[17]? = some o) (_hB : Ext V W) (haft : ∀ j, (o.after.any fun e => decide (e.on = j) && Region.binds .any e) = true → worksS B1 c1 B2 c2 B3 c3 j (a.eval (.tmp (D39 j))) W) : WorksOk B1 c1 B2 c2 B3 c3 Q a W 17 o := by
  have hop := op_at ho (·.op) (x := .move (.tmp 13)) (by kernel_rfl)
  have hgd := op_at ho (·.guard) (x := some (16, true)) (by kernel_rfl)
  have e16 : a.eval (.tmp 167) = .bool true := haft 16 (op_at ho (fun o => o.after.any fun e => decide (e.on = 16) && Region.binds .any e) (x := true) (by kernel_rfl))
  refine ⟨fun j b h => (by rw [hgd] at h; cases h; exact e16), ?_⟩
  exact specs_value (R := worksS B1 c1 B2 c2 B3 c3 17) (v := .int .i64 323) (by simp [execOp, hop, go_sem, ev o13]) rfl (Ext.refl W)
theorem works_op18 (ho : reg18[18]? = some o) (_hB : Ext V W) (haft : ∀ j, (o.after.any fun e => decide (e.on = j) && Region.binds .any e) = true → worksS B1 c1 B2 c2 B3 c3 j (a.eval (.tmp (D39 j))) W) : WorksOk B1 c1 B2 c2 B3 c3 Q a W 18 o := by
  have hop := op_at ho (·.op) (x := .binOp .eql 2 (.tmp 168) (.const (.int .i64 323)) 2) (by kernel_rfl)
  have hgd := op_at ho (·.guard) (x := some (16, true)) (by kernel_rfl)
  have e17 : a.eval (.tmp 168) = .int .i64 323 := haft 17 (op_at ho (fun o => o.after.any fun e => decide (e.on = 17) && Region.binds .any e) (x := true) (by kernel_rfl))
  have e16 : a.eval (.tmp 167) = .bool true := haft 16 (op_at ho (fun o => o.after.any fun e => decide (e.on = 16) && Region.binds .any e) (x := true) (by kernel_rfl))
  refine ⟨fun j b h => (by rw [hgd] at h; cases h; exact e16), ?_⟩
  exact specs_value (R := worksS B1 c1 B2 c2 B3 c3 18) (v := .bool true) (by simp [execOp, hop, go_sem, ev e17]) rfl (Ext.refl W)
theorem works_op19 (ho : reg18[19]? = some o) (_hB : Ext V W) (haft : ∀ j, (o.after.any fun e => decide (e.on = j) && Region.binds .any e) = true → worksS B1 c1 B2 c2 B3 c3 j (a.eval (.tmp (D39 j))) W) : WorksOk B1 c1 B2 c2 B3 c3 Q a W 19 o := by
  have hop := op_at ho (·.op) (x := .pick (.tmp 167) (.tmp 169) (.const (.bool false))) (by kernel_rfl)
  have hgd := op_at ho (·.guard) (x := none) (by kernel_rfl)
  have e16 : a.eval (.tmp 167) = .bool true := haft 16 (op_at ho (fun o => o.after.any fun e => decide (e.on = 16) && Region.binds .any e) (x := true) (by kernel_rfl))
  have e18 : a.eval (.tmp 169) = .bool true := haft 18 (op_at ho (fun o => o.after.any fun e => decide (e.on = 18) && Region.binds .any e) (x := true) (by kernel_rfl))
  refine ⟨fun j b h => (by rw [hgd] at h; cases h), ?_⟩
  exact specs_value (R := worksS B1 c1 B2 c2 B3 c3 19) (v := .bool true) (by simp [execOp, hop, go_sem, ev e16, ev e18]) rfl (Ext.refl W)
theorem works_op20 (ho : reg18[20]? = some o) (_hB : Ext V W) (haft : ∀ j, (o.after.any fun e => decide (e.on = j) && Region.binds .any e) = true → worksS B1 c1 B2 c2 B3 c3 j (a.eval (.tmp (D39 j))) W) : WorksOk B1 c1 B2 c2 B3 c3 Q a W 20 o := by
  have hop := op_at ho (·.op) (x := .move (.tmp 170)) (by kernel_rfl)
  have hgd := op_at ho (·.guard) (x := none) (by kernel_rfl)
  have e19 : a.eval (.tmp 170) = .bool true := haft 19 (op_at ho (fun o => o.after.any fun e => decide (e.on = 19) && Region.binds .any e) (x := true) (by kernel_rfl))
  refine ⟨fun j b h => (by rw [hgd] at h; cases h), ?_⟩
  exact specs_value (R := worksS B1 c1 B2 c2 B3 c3 20) (v := .bool true) (by simp [execOp, hop, go_sem, ev e19]) rfl (Ext.refl W)
theorem works_op21 (o17 : a.eval (.tmp 17) = .slice B1 4 c1) (ho : reg18[21]? = some o) (_hB : Ext V W) (haft : ∀ j, (o.after.any fun e => decide (e.on = j) && Region.binds .any e) = true → worksS B1 c1 B2 c2 B3 c3 j (a.eval (.tmp (D39 j))) W) : WorksOk B1 c1 B2 c2 B3 c3 Q a W 21 o := by
  have hop := op_at ho (·.op) (x := .move (.tmp 17)) (by kernel_rfl)
  have hgd := op_at ho (·.guard) (x := some (20, true)) (by kernel_rfl)
  have e20 : a.eval (.tmp 171) = .bool true := haft 20 (op_at ho (fun o => o.after.any fun e => decide (e.on = 20) && Region.binds .any e) (x := true) (by kernel_rfl))
  refine ⟨fun j b h => (by rw [hgd] at h; cases h; exact e20), ?_⟩
  exact specs_value (R := worksS B1 c1 B2 c2 B3 c3 21) (v := .slice B1 4 c1) (by simp [execOp, hop, go_sem, ev o17]) rfl (Ext.refl W)
theorem works_op22 (ho : reg18[22]? = some o) (_hB : Ext V W) (haft : ∀ j, (o.after.any fun e => decide (e.on = j) && Region.binds .any e) = true → worksS B1 c1 B2 c2 B3 c3 j (a.eval (.tmp (D39 j))) W) : WorksOk B1 c1 B2 c2 B3 c3 Q a W 22 o := by
  have hop := op_at ho (·.op) (x := .buildSlice 42 4 #[(0, .const (.int .i64 (-1))), (1, .const (.int .i64 0)), (2, .const (.int .i64 1)), (3, .const (.int .i64 2))]) (by kernel_rfl)
  have hgd := op_at ho (·.guard) (x := some (20, true)) (by kernel_rfl)
  have e20 : a.eval (.tmp 171) = .bool true := haft 20 (op_at ho (fun o => o.after.any fun e => decide (e.on = 20) && Region.binds .any e) (x := true) (by kernel_rfl))
  refine ⟨fun j b h => (by rw [hgd] at h; cases h; exact e20), ?_⟩
  have hx := held_ints [-1, 0, 1, 2] (row_last W (.cells #[.int .i64 (-1), .int .i64 0, .int .i64 1, .int .i64 2] 3) _ rfl) rfl
  exact specs_value (R := worksS B1 c1 B2 c2 B3 c3 22) (v := .slice (some ⟨W.heap.size, 0, none⟩) 4 4) (W' := W.alloc (.cells #[.int .i64 (-1), .int .i64 0, .int .i64 1, .int .i64 2] 3)) (by simp [execOp, hop, go_sem]) ⟨_, rfl, hx⟩ ((Below.refl _ W).alloc (Nat.le_refl _) _)
theorem works_op23 (hw : Held V V.heap.size 1 encI B1 [-1, 0, 1, 2]) (ho : reg18[23]? = some o) (hB : Ext V W) (haft : ∀ j, (o.after.any fun e => decide (e.on = j) && Region.binds .any e) = true → worksS B1 c1 B2 c2 B3 c3 j (a.eval (.tmp (D39 j))) W) : WorksOk B1 c1 B2 c2 B3 c3 Q a W 23 o := by
  have hop := op_at ho (·.op) (x := .call { callee := .value (.func 31), args := #[.tmp 172, .tmp 173], argTypes := #[42, 42] }) (by kernel_rfl)
  have hgd := op_at ho (·.guard) (x := some (20, true)) (by kernel_rfl)
  have e21 : a.eval (.tmp 172) = .slice B1 4 c1 := haft 21 (op_at ho (fun o => o.after.any fun e => decide (e.on = 21) && Region.binds .any e) (x := true) (by kernel_rfl))
  obtain ⟨l22, e22, h22⟩ := haft 22 (op_at ho (fun o => o.after.any fun e => decide (e.on = 22) && Region.binds .any e) (x := true) (by kernel_rfl))
  rw [show D39 22 = 173 from rfl] at e22
  have e20 : a.eval (.tmp 171) = .bool true := haft 20 (op_at ho (fun o => o.after.any fun e => decide (e.on = 20) && Region.binds .any e) (x := true) (by kernel_rfl))
  refine ⟨fun j b h => (by rw [hgd] at h; cases h; exact e20), ?_⟩
  have hc := ints_any B1 (some ⟨l22, 0, none⟩) 4 c1 4 4 [-1, 0, 1, 2] [-1, 0, 1, 2] W rfl rfl (by omega) (by omega) (hw.ext hB) h22
  exact specs_call (R := worksS B1 c1 B2 c2 B3 c3 23) (f := 31) (args := #[.slice B1 4 c1, .slice (some ⟨l22, 0, none⟩) 4 4]) (by simp [execOp, hop, go_sem, ev e21, ev e22]) (hc.mono fun e w' h => ⟨_, h.1, by simp [worksS], h.2⟩)
theorem works_op24 (ho : reg18[24]? = some o) (_hB : Ext V W) (haft : ∀ j, (o.after.any fun e => decide (e.on = j) && Region.binds .any e) = true → worksS B1 c1 B2 c2 B3 c3 j (a.eval (.tmp (D39 j))) W) : WorksOk B1 c1 B2 c2 B3 c3 Q a W 24 o := by
  have hop := op_at ho (·.op) (x := .pick (.tmp 171) (.tmp 174) (.const (.bool false))) (by kernel_rfl)
  have hgd := op_at ho (·.guard) (x := none) (by kernel_rfl)
  have e20 : a.eval (.tmp 171) = .bool true := haft 20 (op_at ho (fun o => o.after.any fun e => decide (e.on = 20) && Region.binds .any e) (x := true) (by kernel_rfl))
  have e23 : a.eval (.tmp 174) = .bool true := haft 23 (op_at ho (fun o => o.after.any fun e => decide (e.on = 23) && Region.binds .any e) (x := true) (by kernel_rfl))
  refine ⟨fun j b h => (by rw [hgd] at h; cases h), ?_⟩
  exact specs_value (R := worksS B1 c1 B2 c2 B3 c3 24) (v := .bool true) (by simp [execOp, hop, go_sem, ev e20, ev e23]) rfl (Ext.refl W)
theorem works_op25 (ho : reg18[25]? = some o) (_hB : Ext V W) (haft : ∀ j, (o.after.any fun e => decide (e.on = j) && Region.binds .any e) = true → worksS B1 c1 B2 c2 B3 c3 j (a.eval (.tmp (D39 j))) W) : WorksOk B1 c1 B2 c2 B3 c3 Q a W 25 o := by
  have hop := op_at ho (·.op) (x := .move (.tmp 175)) (by kernel_rfl)
  have hgd := op_at ho (·.guard) (x := none) (by kernel_rfl)
  have e24 : a.eval (.tmp 175) = .bool true := haft 24 (op_at ho (fun o => o.after.any fun e => decide (e.on = 24) && Region.binds .any e) (x := true) (by kernel_rfl))
  refine ⟨fun j b h => (by rw [hgd] at h; cases h), ?_⟩
  exact specs_value (R := worksS B1 c1 B2 c2 B3 c3 25) (v := .bool true) (by simp [execOp, hop, go_sem, ev e24]) rfl (Ext.refl W)
theorem works_op26 (o21 : a.eval (.tmp 21) = .slice B2 2 c2) (ho : reg18[26]? = some o) (_hB : Ext V W) (haft : ∀ j, (o.after.any fun e => decide (e.on = j) && Region.binds .any e) = true → worksS B1 c1 B2 c2 B3 c3 j (a.eval (.tmp (D39 j))) W) : WorksOk B1 c1 B2 c2 B3 c3 Q a W 26 o := by
  have hop := op_at ho (·.op) (x := .move (.tmp 21)) (by kernel_rfl)
  have hgd := op_at ho (·.guard) (x := some (25, true)) (by kernel_rfl)
  have e25 : a.eval (.tmp 176) = .bool true := haft 25 (op_at ho (fun o => o.after.any fun e => decide (e.on = 25) && Region.binds .any e) (x := true) (by kernel_rfl))
  refine ⟨fun j b h => (by rw [hgd] at h; cases h; exact e25), ?_⟩
  exact specs_value (R := worksS B1 c1 B2 c2 B3 c3 26) (v := .slice B2 2 c2) (by simp [execOp, hop, go_sem, ev o21]) rfl (Ext.refl W)
theorem works_op27 (ho : reg18[27]? = some o) (_hB : Ext V W) (haft : ∀ j, (o.after.any fun e => decide (e.on = j) && Region.binds .any e) = true → worksS B1 c1 B2 c2 B3 c3 j (a.eval (.tmp (D39 j))) W) : WorksOk B1 c1 B2 c2 B3 c3 Q a W 27 o := by
  have hop := op_at ho (·.op) (x := .buildSlice 42 2 #[(0, .const (.int .i64 0)), (1, .const (.int .i64 1))]) (by kernel_rfl)
  have hgd := op_at ho (·.guard) (x := some (25, true)) (by kernel_rfl)
  have e25 : a.eval (.tmp 176) = .bool true := haft 25 (op_at ho (fun o => o.after.any fun e => decide (e.on = 25) && Region.binds .any e) (x := true) (by kernel_rfl))
  refine ⟨fun j b h => (by rw [hgd] at h; cases h; exact e25), ?_⟩
  have hx := held_ints [0, 1] (row_last W (.cells #[.int .i64 0, .int .i64 1] 3) _ rfl) rfl
  exact specs_value (R := worksS B1 c1 B2 c2 B3 c3 27) (v := .slice (some ⟨W.heap.size, 0, none⟩) 2 2) (W' := W.alloc (.cells #[.int .i64 0, .int .i64 1] 3)) (by simp [execOp, hop, go_sem]) ⟨_, rfl, hx⟩ ((Below.refl _ W).alloc (Nat.le_refl _) _)
theorem works_op28 (hx : Held V V.heap.size 1 encI B2 [0, 1]) (ho : reg18[28]? = some o) (hB : Ext V W) (haft : ∀ j, (o.after.any fun e => decide (e.on = j) && Region.binds .any e) = true → worksS B1 c1 B2 c2 B3 c3 j (a.eval (.tmp (D39 j))) W) : WorksOk B1 c1 B2 c2 B3 c3 Q a W 28 o := by
  have hop := op_at ho (·.op) (x := .call { callee := .value (.func 31), args := #[.tmp 177, .tmp 178], argTypes := #[42, 42] }) (by kernel_rfl)
  have hgd := op_at ho (·.guard) (x := some (25, true)) (by kernel_rfl)
  have e26 : a.eval (.tmp 177) = .slice B2 2 c2 := haft 26 (op_at ho (fun o => o.after.any fun e => decide (e.on = 26) && Region.binds .any e) (x := true) (by kernel_rfl))
  obtain ⟨l27, e27, h27⟩ := haft 27 (op_at ho (fun o => o.after.any fun e => decide (e.on = 27) && Region.binds .any e) (x := true) (by kernel_rfl))
  rw [show D39 27 = 178 from rfl] at e27
  have e25 : a.eval (.tmp 176) = .bool true := haft 25 (op_at ho (fun o => o.after.any fun e => decide (e.on = 25) && Region.binds .any e) (x := true) (by kernel_rfl))
  refine ⟨fun j b h => (by rw [hgd] at h; cases h; exact e25), ?_⟩
  have hc := ints_any B2 (some ⟨l27, 0, none⟩) 2 c2 2 2 [0, 1] [0, 1] W rfl rfl (by omega) (by omega) (hx.ext hB) h27
  exact specs_call (R := worksS B1 c1 B2 c2 B3 c3 28) (f := 31) (args := #[.slice B2 2 c2, .slice (some ⟨l27, 0, none⟩) 2 2]) (by simp [execOp, hop, go_sem, ev e26, ev e27]) (hc.mono fun e w' h => ⟨_, h.1, by simp [worksS], h.2⟩)
theorem works_op29 (ho : reg18[29]? = some o) (_hB : Ext V W) (haft : ∀ j, (o.after.any fun e => decide (e.on = j) && Region.binds .any e) = true → worksS B1 c1 B2 c2 B3 c3 j (a.eval (.tmp (D39 j))) W) : WorksOk B1 c1 B2 c2 B3 c3 Q a W 29 o := by
  have hop := op_at ho (·.op) (x := .pick (.tmp 176) (.tmp 179) (.const (.bool false))) (by kernel_rfl)
  have hgd := op_at ho (·.guard) (x := none) (by kernel_rfl)
  have e25 : a.eval (.tmp 176) = .bool true := haft 25 (op_at ho (fun o => o.after.any fun e => decide (e.on = 25) && Region.binds .any e) (x := true) (by kernel_rfl))
  have e28 : a.eval (.tmp 179) = .bool true := haft 28 (op_at ho (fun o => o.after.any fun e => decide (e.on = 28) && Region.binds .any e) (x := true) (by kernel_rfl))
  refine ⟨fun j b h => (by rw [hgd] at h; cases h), ?_⟩
  exact specs_value (R := worksS B1 c1 B2 c2 B3 c3 29) (v := .bool true) (by simp [execOp, hop, go_sem, ev e25, ev e28]) rfl (Ext.refl W)
theorem works_op30 (ho : reg18[30]? = some o) (_hB : Ext V W) (haft : ∀ j, (o.after.any fun e => decide (e.on = j) && Region.binds .any e) = true → worksS B1 c1 B2 c2 B3 c3 j (a.eval (.tmp (D39 j))) W) : WorksOk B1 c1 B2 c2 B3 c3 Q a W 30 o := by
  have hop := op_at ho (·.op) (x := .move (.tmp 180)) (by kernel_rfl)
  have hgd := op_at ho (·.guard) (x := none) (by kernel_rfl)
  have e29 : a.eval (.tmp 180) = .bool true := haft 29 (op_at ho (fun o => o.after.any fun e => decide (e.on = 29) && Region.binds .any e) (x := true) (by kernel_rfl))
  refine ⟨fun j b h => (by rw [hgd] at h; cases h), ?_⟩
  exact specs_value (R := worksS B1 c1 B2 c2 B3 c3 30) (v := .bool true) (by simp [execOp, hop, go_sem, ev e29]) rfl (Ext.refl W)
theorem works_op31 (o25 : a.eval (.tmp 25) = .slice B3 4 c3) (ho : reg18[31]? = some o) (_hB : Ext V W) (haft : ∀ j, (o.after.any fun e => decide (e.on = j) && Region.binds .any e) = true → worksS B1 c1 B2 c2 B3 c3 j (a.eval (.tmp (D39 j))) W) : WorksOk B1 c1 B2 c2 B3 c3 Q a W 31 o := by
  have hop := op_at ho (·.op) (x := .move (.tmp 25)) (by kernel_rfl)
  have hgd := op_at ho (·.guard) (x := some (30, true)) (by kernel_rfl)
  have e30 : a.eval (.tmp 181) = .bool true := haft 30 (op_at ho (fun o => o.after.any fun e => decide (e.on = 30) && Region.binds .any e) (x := true) (by kernel_rfl))
  refine ⟨fun j b h => (by rw [hgd] at h; cases h; exact e30), ?_⟩
  exact specs_value (R := worksS B1 c1 B2 c2 B3 c3 31) (v := .slice B3 4 c3) (by simp [execOp, hop, go_sem, ev o25]) rfl (Ext.refl W)
theorem works_op32 (ho : reg18[32]? = some o) (_hB : Ext V W) (haft : ∀ j, (o.after.any fun e => decide (e.on = j) && Region.binds .any e) = true → worksS B1 c1 B2 c2 B3 c3 j (a.eval (.tmp (D39 j))) W) : WorksOk B1 c1 B2 c2 B3 c3 Q a W 32 o := by
  have hop := op_at ho (·.op) (x := .buildSlice 42 1 #[(0, .const (.int .i64 (-2)))]) (by kernel_rfl)
  have hgd := op_at ho (·.guard) (x := some (30, true)) (by kernel_rfl)
  have e30 : a.eval (.tmp 181) = .bool true := haft 30 (op_at ho (fun o => o.after.any fun e => decide (e.on = 30) && Region.binds .any e) (x := true) (by kernel_rfl))
  refine ⟨fun j b h => (by rw [hgd] at h; cases h; exact e30), ?_⟩
  have hx := held_ints [-2] (row_last W (.cells #[.int .i64 (-2)] 3) _ rfl) rfl
  exact specs_value (R := worksS B1 c1 B2 c2 B3 c3 32) (v := .slice (some ⟨W.heap.size, 0, none⟩) 1 1) (W' := W.alloc (.cells #[.int .i64 (-2)] 3)) (by simp [execOp, hop, go_sem]) ⟨_, rfl, hx⟩ ((Below.refl _ W).alloc (Nat.le_refl _) _)
theorem works_op33 (ho : reg18[33]? = some o) (_hB : Ext V W) (haft : ∀ j, (o.after.any fun e => decide (e.on = j) && Region.binds .any e) = true → worksS B1 c1 B2 c2 B3 c3 j (a.eval (.tmp (D39 j))) W) : WorksOk B1 c1 B2 c2 B3 c3 Q a W 33 o := by
  have hop := op_at ho (·.op) (x := .buildSlice 42 1 #[(0, .const (.int .i64 (-1)))]) (by kernel_rfl)
  have hgd := op_at ho (·.guard) (x := some (30, true)) (by kernel_rfl)
  have e30 : a.eval (.tmp 181) = .bool true := haft 30 (op_at ho (fun o => o.after.any fun e => decide (e.on = 30) && Region.binds .any e) (x := true) (by kernel_rfl))
  refine ⟨fun j b h => (by rw [hgd] at h; cases h; exact e30), ?_⟩
  have hx := held_ints [-1] (row_last W (.cells #[.int .i64 (-1)] 3) _ rfl) rfl
  exact specs_value (R := worksS B1 c1 B2 c2 B3 c3 33) (v := .slice (some ⟨W.heap.size, 0, none⟩) 1 1) (W' := W.alloc (.cells #[.int .i64 (-1)] 3)) (by simp [execOp, hop, go_sem]) ⟨_, rfl, hx⟩ ((Below.refl _ W).alloc (Nat.le_refl _) _)
theorem works_op34 (ho : reg18[34]? = some o) (_hB : Ext V W) (haft : ∀ j, (o.after.any fun e => decide (e.on = j) && Region.binds .any e) = true → worksS B1 c1 B2 c2 B3 c3 j (a.eval (.tmp (D39 j))) W) : WorksOk B1 c1 B2 c2 B3 c3 Q a W 34 o := by
  have hop := op_at ho (·.op) (x := .buildSlice 42 2 #[(0, .const (.int .i64 0)), (1, .const (.int .i64 1))]) (by kernel_rfl)
  have hgd := op_at ho (·.guard) (x := some (30, true)) (by kernel_rfl)
  have e30 : a.eval (.tmp 181) = .bool true := haft 30 (op_at ho (fun o => o.after.any fun e => decide (e.on = 30) && Region.binds .any e) (x := true) (by kernel_rfl))
  refine ⟨fun j b h => (by rw [hgd] at h; cases h; exact e30), ?_⟩
  have hx := held_ints [0, 1] (row_last W (.cells #[.int .i64 0, .int .i64 1] 3) _ rfl) rfl
  exact specs_value (R := worksS B1 c1 B2 c2 B3 c3 34) (v := .slice (some ⟨W.heap.size, 0, none⟩) 2 2) (W' := W.alloc (.cells #[.int .i64 0, .int .i64 1] 3)) (by simp [execOp, hop, go_sem]) ⟨_, rfl, hx⟩ ((Below.refl _ W).alloc (Nat.le_refl _) _)
theorem works_op35 (ho : reg18[35]? = some o) (_hB : Ext V W) (haft : ∀ j, (o.after.any fun e => decide (e.on = j) && Region.binds .any e) = true → worksS B1 c1 B2 c2 B3 c3 j (a.eval (.tmp (D39 j))) W) : WorksOk B1 c1 B2 c2 B3 c3 Q a W 35 o := by
  have hop := op_at ho (·.op) (x := .buildSlice 42 1 #[(0, .const (.int .i64 2))]) (by kernel_rfl)
  have hgd := op_at ho (·.guard) (x := some (30, true)) (by kernel_rfl)
  have e30 : a.eval (.tmp 181) = .bool true := haft 30 (op_at ho (fun o => o.after.any fun e => decide (e.on = 30) && Region.binds .any e) (x := true) (by kernel_rfl))
  refine ⟨fun j b h => (by rw [hgd] at h; cases h; exact e30), ?_⟩
  have hx := held_ints [2] (row_last W (.cells #[.int .i64 2] 3) _ rfl) rfl
  exact specs_value (R := worksS B1 c1 B2 c2 B3 c3 35) (v := .slice (some ⟨W.heap.size, 0, none⟩) 1 1) (W' := W.alloc (.cells #[.int .i64 2] 3)) (by simp [execOp, hop, go_sem]) ⟨_, rfl, hx⟩ ((Below.refl _ W).alloc (Nat.le_refl _) _)
theorem works_op36 (ho : reg18[36]? = some o) (_hB : Ext V W) (haft : ∀ j, (o.after.any fun e => decide (e.on = j) && Region.binds .any e) = true → worksS B1 c1 B2 c2 B3 c3 j (a.eval (.tmp (D39 j))) W) : WorksOk B1 c1 B2 c2 B3 c3 Q a W 36 o := by
  have hop := op_at ho (·.op) (x := .buildSlice 48 4 #[(0, .tmp 183), (1, .tmp 184), (2, .tmp 185), (3, .tmp 186)]) (by kernel_rfl)
  have hgd := op_at ho (·.guard) (x := some (30, true)) (by kernel_rfl)
  obtain ⟨l32, e32, h32⟩ := haft 32 (op_at ho (fun o => o.after.any fun e => decide (e.on = 32) && Region.binds .any e) (x := true) (by kernel_rfl))
  rw [show D39 32 = 183 from rfl] at e32
  obtain ⟨l33, e33, h33⟩ := haft 33 (op_at ho (fun o => o.after.any fun e => decide (e.on = 33) && Region.binds .any e) (x := true) (by kernel_rfl))
  rw [show D39 33 = 184 from rfl] at e33
  obtain ⟨l34, e34, h34⟩ := haft 34 (op_at ho (fun o => o.after.any fun e => decide (e.on = 34) && Region.binds .any e) (x := true) (by kernel_rfl))
  rw [show D39 34 = 185 from rfl] at e34
  obtain ⟨l35, e35, h35⟩ := haft 35 (op_at ho (fun o => o.after.any fun e => decide (e.on = 35) && Region.binds .any e) (x := true) (by kernel_rfl))
  rw [show D39 35 = 186 from rfl] at e35
  have e30 : a.eval (.tmp 181) = .bool true := haft 30 (op_at ho (fun o => o.after.any fun e => decide (e.on = 30) && Region.binds .any e) (x := true) (by kernel_rfl))
  refine ⟨fun j b h => (by rw [hgd] at h; cases h; exact e30), ?_⟩
  have hb0 : Ext W (W.alloc (.cells #[.slice (some ⟨l32, 0, none⟩) 1 1, .slice (some ⟨l33, 0, none⟩) 1 1, .slice (some ⟨l34, 0, none⟩) 2 2, .slice (some ⟨l35, 0, none⟩) 1 1] 42)) := (Below.refl _ W).alloc (Nat.le_refl _) _
  have hr := row_last W (.cells #[.slice (some ⟨l32, 0, none⟩) 1 1, .slice (some ⟨l33, 0, none⟩) 1 1, .slice (some ⟨l34, 0, none⟩) 2 2, .slice (some ⟨l35, 0, none⟩) 1 1] 42) _ rfl
  exact specs_value (R := worksS B1 c1 B2 c2 B3 c3 36) (v := .slice (some ⟨W.heap.size, 0, none⟩) 4 4) (W' := W.alloc (.cells #[.slice (some ⟨l32, 0, none⟩) 1 1, .slice (some ⟨l33, 0, none⟩) 1 1, .slice (some ⟨l34, 0, none⟩) 2 2, .slice (some ⟨l35, 0, none⟩) 1 1] 42)) (by simp [execOp, hop, go_sem, ev e32, ev e33, ev e34, ev e35]) ⟨_, rfl, rows4 hr (h32.ext hb0) (h33.ext hb0) (h34.ext hb0) (h35.ext hb0)⟩ hb0
theorem works_op37 (hg : HeldRows V V.heap.size B3 [[-2], [-1], [0, 1], [2]]) (ho : reg18[37]? = some o) (hB : Ext V W) (haft : ∀ j, (o.after.any fun e => decide (e.on = j) && Region.binds .any e) = true → worksS B1 c1 B2 c2 B3 c3 j (a.eval (.tmp (D39 j))) W) : WorksOk B1 c1 B2 c2 B3 c3 Q a W 37 o := by
  have hop := op_at ho (·.op) (x := .call { callee := .value (.func 38), args := #[.tmp 182, .tmp 187], argTypes := #[48, 48] }) (by kernel_rfl)
  have hgd := op_at ho (·.guard) (x := some (30, true)) (by kernel_rfl)
  have e31 : a.eval (.tmp 182) = .slice B3 4 c3 := haft 31 (op_at ho (fun o => o.after.any fun e => decide (e.on = 31) && Region.binds .any e) (x := true) (by kernel_rfl))
  obtain ⟨l36, e36, h36⟩ := haft 36 (op_at ho (fun o => o.after.any fun e => decide (e.on = 36) && Region.binds .any e) (x := true) (by kernel_rfl))
  rw [show D39 36 = 187 from rfl] at e36
  have e30 : a.eval (.tmp 181) = .bool true := haft 30 (op_at ho (fun o => o.after.any fun e => decide (e.on = 30) && Region.binds .any e) (x := true) (by kernel_rfl))
  refine ⟨fun j b h => (by rw [hgd] at h; cases h; exact e30), ?_⟩
  have hc := lists_any B3 (some ⟨l36, 0, none⟩) 4 c3 4 4 [[-2], [-1], [0, 1], [2]] [[-2], [-1], [0, 1], [2]] W rfl rfl (by omega) (by omega) (hg.ext hB) h36
  exact specs_call (R := worksS B1 c1 B2 c2 B3 c3 37) (f := 38) (args := #[.slice B3 4 c3, .slice (some ⟨l36, 0, none⟩) 4 4]) (by simp [execOp, hop, go_sem, ev e31, ev e36]) (hc.mono fun e w' h => ⟨_, h.1, by simp [worksS], h.2⟩)
theorem works_op38 (ho : reg18[38]? = some o) (_hB : Ext V W) (haft : ∀ j, (o.after.any fun e => decide (e.on = j) && Region.binds .any e) = true → worksS B1 c1 B2 c2 B3 c3 j (a.eval (.tmp (D39 j))) W) : WorksOk B1 c1 B2 c2 B3 c3 Q a W 38 o := by
  have hop := op_at ho (·.op) (x := .pick (.tmp 181) (.tmp 188) (.const (.bool false))) (by kernel_rfl)
  have hgd := op_at ho (·.guard) (x := none) (by kernel_rfl)
  have e30 : a.eval (.tmp 181) = .bool true := haft 30 (op_at ho (fun o => o.after.any fun e => decide (e.on = 30) && Region.binds .any e) (x := true) (by kernel_rfl))
  have e37 : a.eval (.tmp 188) = .bool true := haft 37 (op_at ho (fun o => o.after.any fun e => decide (e.on = 37) && Region.binds .any e) (x := true) (by kernel_rfl))
  refine ⟨fun j b h => (by rw [hgd] at h; cases h), ?_⟩
  exact specs_value (R := worksS B1 c1 B2 c2 B3 c3 38) (v := .bool true) (by simp [execOp, hop, go_sem, ev e30, ev e37]) rfl (Ext.refl W)
theorem works_op39 (ho : reg18[39]? = some o) (_hB : Ext V W) (haft : ∀ j, (o.after.any fun e => decide (e.on = j) && Region.binds .any e) = true → worksS B1 c1 B2 c2 B3 c3 j (a.eval (.tmp (D39 j))) W) : WorksOk B1 c1 B2 c2 B3 c3 Q a W 39 o := by
  have hop := op_at ho (·.op) (x := .assign (.tmp 189)) (by kernel_rfl)
  have hgd := op_at ho (·.guard) (x := none) (by kernel_rfl)
  have e38 : a.eval (.tmp 189) = .bool true := haft 38 (op_at ho (fun o => o.after.any fun e => decide (e.on = 38) && Region.binds .any e) (x := true) (by kernel_rfl))
  refine ⟨fun j b h => (by rw [hgd] at h; cases h), ?_⟩
  exact specs_value (R := worksS B1 c1 B2 c2 B3 c3 39) (v := .bool true) (by simp [execOp, hop, go_sem, ev e38]) rfl (Ext.refl W)
end
end Go.Proofs.Ytckndnaohggmhaa

/- Works. -/
namespace Go.Proofs.Ytckndnaohggmhaa
open Go.RowKit Go.Shelf

theorem ex_cells {W : World} {p : Nat} {A A' : Option Addr} {k : Nat} {ds : List (Int × Int × Int)} (h : ExAt W p A A' k ds) :
    W.cell? ⟨p, 0, none⟩ = some (.int .i64 100) ∧ W.cell? ⟨p, 1, none⟩ = some (.slice A 3 3) ∧ W.cell? ⟨p, 2, none⟩ = some (.slice A' k k) :=
  ⟨cell_of_row _ _ _ _ _ _ h.row, cell_of_row _ _ _ _ _ _ h.row, cell_of_row _ _ _ _ _ _ h.row⟩

set_option maxRecDepth 100000 in
set_option maxHeartbeats 4000000 in
theorem works_any (w : World) : Calls Try.prog 16 #[] w fun e w' => e = .returned (.bool true) ∧ Ext w w' := by
  go_enter Try.func16, Try.ntmps16
  go_wp2_with fail
  refine (bath_any _).mono ?_
  rintro e w1 ⟨hb1, g1, g1', rfl, hI1⟩
  go_wp2_with fail
  refine (few_any _).mono ?_
  rintro e w2 ⟨hb2, g2, g2', rfl, hI2⟩
  go_upto_region 2 with fail
  obtain ⟨W0, hW, x1, x2, eW⟩ : ∃ W, ((w2.alloc (.cells #[.int .i64 100, .slice (some ⟨g1, 0, none⟩) 3 3, .slice (some ⟨g1', 0, none⟩) 4 4] 25)).alloc (.cells #[.int .i64 100, .slice (some ⟨g2, 0, none⟩) 3 3, .slice (some ⟨g2', 0, none⟩) 2 2] 25)) = W ∧
      ExAt W w2.heap.size (some ⟨g1, 0, none⟩) (some ⟨g1', 0, none⟩) 4 exB ∧ ExAt W (w2.heap.size + 1) (some ⟨g2, 0, none⟩) (some ⟨g2', 0, none⟩) 2 exC ∧ Ext w W := by
    have e2 : Ext w2 ((w2.alloc (.cells #[.int .i64 100, .slice (some ⟨g1, 0, none⟩) 3 3, .slice (some ⟨g1', 0, none⟩) 4 4] 25)).alloc (.cells #[.int .i64 100, .slice (some ⟨g2, 0, none⟩) 3 3, .slice (some ⟨g2', 0, none⟩) 2 2] 25)) :=
      ((Below.refl _ w2).alloc (Nat.le_refl _) _).alloc (by simp) _
    refine ⟨_, rfl, ⟨row_alloc _ _ _ _ (row_last _ _ _ rfl), ?_⟩, ⟨row_last _ _ _ (by simp), ?_⟩, ?_⟩
    · exact (hI1.kept (Ext.trans hb2 e2) (Nat.le_refl _)).wider (Ext.trans hb2 e2).size
    · exact (hI2.kept e2 (Nat.le_refl _)).wider e2.size
    · exact Ext.trans hb1 (Ext.trans hb2 e2)
  rw [hW]
  clear hW hI1 hI2 hb1 hb2
  generalize w2.heap.size + 1 = p2 at x2 ⊢
  generalize w2.heap.size = p1 at x1 ⊢
  obtain ⟨q0, q1, q2⟩ := ex_cells x1
  have c0 := exc_size x1.bath
  go_upto_region 3 with (go_at_call 17; refine c0.mono ?_; rintro e V1 ⟨rfl, eV⟩)
  clear q0 q1 q2 c0
  replace x1 := x1.ext eV
  replace x2 := x2.ext eV
  replace eW := eW.trans eV
  clear eV
  obtain ⟨W1, hW, r3, eV⟩ : ∃ W, V1.alloc (.cells #[.int .i64 300, .int .i64 444] 29) = W ∧ W.heap[V1.heap.size]? = some (.cells #[.int .i64 300, .int .i64 444] 29 (0, 0)) ∧ Ext V1 W := ⟨_, rfl, row_last _ _ _ rfl, (Below.refl _ V1).alloc (Nat.le_refl _) _⟩
  rw [hW]
  replace x1 := x1.ext eV
  replace x2 := x2.ext eV
  replace eW := eW.trans eV
  clear hW eV
  generalize V1.heap.size = p3 at r3 ⊢
  obtain ⟨q0, q1, q2⟩ := ex_cells x1
  have c0 := exc_touch 1 2 1 ex_touch x1.bath
  go_upto_region 4 with (go_at_call 21; refine c0.mono ?_; rintro e V2 ⟨rfl, eV⟩)
  clear q0 q1 q2 c0
  replace x1 := x1.ext eV
  replace x2 := x2.ext eV
  replace r3 := row_ext r3 eV
  replace eW := eW.trans eV
  clear eV
  obtain ⟨q0, q1, q2⟩ := ex_cells x1
  have c0 := exc_beside 0 2 2 ex_beside x1.bath
  go_upto_region 5 with (go_at_call 23; refine c0.mono ?_; rintro e V3 ⟨rfl, eV⟩)
  clear q0 q1 q2 c0
  replace x1 := x1.ext eV
  replace x2 := x2.ext eV
  replace r3 := row_ext r3 eV
  replace eW := eW.trans eV
  clear eV
  obtain ⟨q0, q1, q2⟩ := ex_cells x1
  have c0 := exc_first 0 1 2 3 0 (by kernel_rfl) ex_first x1.bath
  go_upto_region 6 with (go_at_call 25; refine c0.mono ?_; rintro e V4 ⟨rfl, eV⟩)
  clear q0 q1 q2 c0
  replace x1 := x1.ext eV
  replace x2 := x2.ext eV
  replace r3 := row_ext r3 eV
  replace eW := eW.trans eV
  clear eV
  obtain ⟨W4, hW, r4, eV⟩ : ∃ W, V4.alloc (.cells #[.int .i64 2, .int .i64 3] 29) = W ∧ W.heap[V4.heap.size]? = some (.cells #[.int .i64 2, .int .i64 3] 29 (0, 0)) ∧ Ext V4 W := ⟨_, rfl, row_last _ _ _ rfl, (Below.refl _ V4).alloc (Nat.le_refl _) _⟩
  rw [hW]
  replace x1 := x1.ext eV
  replace x2 := x2.ext eV
  replace r3 := row_ext r3 eV
  replace eW := eW.trans eV
  clear hW eV
  generalize V4.heap.size = p4 at r4 ⊢
  obtain ⟨q0, q1, q2⟩ := ex_cells x1
  have c0 := exc_first 0 2 0 0 17 ex_for02 ex_first2 x1.bath
  go_upto_region 7 with (go_at_call 25; refine c0.mono ?_; rintro e V5 ⟨rfl, eV⟩)
  clear q0 q1 q2 c0
  replace x1 := x1.ext eV
  replace x2 := x2.ext eV
  replace r3 := row_ext r3 eV
  replace r4 := row_ext r4 eV
  replace eW := eW.trans eV
  clear eV
  obtain ⟨W5, hW, r5, eV⟩ : ∃ W, V5.alloc (.cells #[.int .i64 0, .int .i64 0] 29) = W ∧ W.heap[V5.heap.size]? = some (.cells #[.int .i64 0, .int .i64 0] 29 (0, 0)) ∧ Ext V5 W := ⟨_, rfl, row_last _ _ _ rfl, (Below.refl _ V5).alloc (Nat.le_refl _) _⟩
  rw [hW]
  replace x1 := x1.ext eV
  replace x2 := x2.ext eV
  replace r3 := row_ext r3 eV
  replace r4 := row_ext r4 eV
  replace eW := eW.trans eV
  clear hW eV
  generalize V5.heap.size = p5 at r5 ⊢
  obtain ⟨q0, q1, q2⟩ := ex_cells x2
  have c0 := exc_room 1 323 (by kernel_rfl) ex_free1 (fun r h => by rw [ex_room1 h]; rfl) x2.bath
  go_upto_region 8 with (go_at_call 27; refine c0.mono ?_; rintro e V6 ⟨rfl, eV⟩)
  clear q0 q1 q2 c0
  replace x1 := x1.ext eV
  replace x2 := x2.ext eV
  replace r3 := row_ext r3 eV
  replace r4 := row_ext r4 eV
  replace r5 := row_ext r5 eV
  replace eW := eW.trans eV
  clear eV
  obtain ⟨q0, q1, q2⟩ := ex_cells x1
  have c0 := exc_full x1.bath
  go_upto_region 9 with (go_at_call 27; refine c0.mono ?_; rintro e V7 ⟨rfl, eV⟩)
  clear q0 q1 q2 c0
  replace x1 := x1.ext eV
  replace x2 := x2.ext eV
  replace r3 := row_ext r3 eV
  replace r4 := row_ext r4 eV
  replace r5 := row_ext r5 eV
  replace eW := eW.trans eV
  clear eV
  obtain ⟨q0, q1, q2⟩ := ex_cells x1
  have c0 := exc_way x1.bath
  go_upto_region 10 with (go_at_call 29; refine c0.mono ?_; rintro e V8 ⟨⟨B1, c1, rfl, hw⟩, eV⟩)
  clear q0 q1 q2 c0
  replace x1 := x1.ext eV
  replace x2 := x2.ext eV
  replace r3 := row_ext r3 eV
  replace r4 := row_ext r4 eV
  replace r5 := row_ext r5 eV
  replace eW := eW.trans eV
  clear eV
  obtain ⟨q0, q1, q2⟩ := ex_cells x1
  have c0 := exc_noway x1.bath
  go_upto_region 11 with (go_at_call 29; refine c0.mono ?_; rintro e V9 ⟨rfl, eV⟩)
  clear q0 q1 q2 c0
  replace x1 := x1.ext eV
  replace x2 := x2.ext eV
  replace r3 := row_ext r3 eV
  replace r4 := row_ext r4 eV
  replace r5 := row_ext r5 eV
  replace hw := hw.ext eV
  replace eW := eW.trans eV
  clear eV
  obtain ⟨q0, q1, q2⟩ := ex_cells x1
  have c0 := exc_side true 2 [0, 1] (by simp) ex_for02 ex_goes1 ex_list1 x1.bath
  go_upto_region 12 with (go_at_call 34; refine c0.mono ?_; rintro e V10 ⟨⟨B2, c2, rfl, hx⟩, eV⟩)
  clear q0 q1 q2 c0
  replace x1 := x1.ext eV
  replace x2 := x2.ext eV
  replace r3 := row_ext r3 eV
  replace r4 := row_ext r4 eV
  replace r5 := row_ext r5 eV
  replace hw := hw.ext eV
  replace eW := eW.trans eV
  clear eV
  obtain ⟨q0, q1, q2⟩ := ex_cells x1
  have c0 := exc_have x1.bath
  go_upto_region 13 with (go_at_call 34; refine c0.mono ?_; rintro e V11 ⟨rfl, eV⟩)
  clear q0 q1 q2 c0
  replace x1 := x1.ext eV
  replace x2 := x2.ext eV
  replace r3 := row_ext r3 eV
  replace r4 := row_ext r4 eV
  replace r5 := row_ext r5 eV
  replace hw := hw.ext eV
  replace hx := hx.ext eV
  replace eW := eW.trans eV
  clear eV
  obtain ⟨q0, q1, q2⟩ := ex_cells x1
  have c0 := exc_groups true [[-2], [-1], [0, 1], [2]] (by simp) (by simp) (by simp) ex_groups1 x1.bath
  go_upto_region 14 with (go_at_call 36; refine c0.mono ?_; rintro e V12 ⟨⟨B3, c3, rfl, hg⟩, eV⟩)
  clear q0 q1 q2 c0
  replace x1 := x1.ext eV
  replace x2 := x2.ext eV
  replace r3 := row_ext r3 eV
  replace r4 := row_ext r4 eV
  replace r5 := row_ext r5 eV
  replace hw := hw.ext eV
  replace hx := hx.ext eV
  replace eW := eW.trans eV
  clear eV
  have eA : Ext V12 (V12.alloc (.cells #[.int .i64 0, .int .i64 1, .int .i64 2] 3)) := (Below.refl _ V12).alloc (Nat.le_refl _) _
  obtain ⟨q0, q1, q2⟩ := ex_cells x1
  have c0 := exc_checkWay (some ⟨V12.heap.size, 0, none⟩) (held_ints [0, 1, 2] (row_last V12 _ _ rfl) rfl) (x1.ext eA).bath
  go_upto_region 15 with (go_at_call 32; refine c0.mono ?_; rintro e V13 ⟨rfl, eV⟩)
  replace eV := eA.trans eV
  clear q0 q1 q2 c0
  replace x1 := x1.ext eV
  replace x2 := x2.ext eV
  replace r3 := row_ext r3 eV
  replace r4 := row_ext r4 eV
  replace r5 := row_ext r5 eV
  replace hw := hw.ext eV
  replace hx := hx.ext eV
  replace hg := hg.ext eV
  replace eW := eW.trans eV
  clear eV eA
  have eA : Ext V13 (V13.alloc (.cells #[.int .i64 0] 3)) := (Below.refl _ V13).alloc (Nat.le_refl _) _
  obtain ⟨q0, q1, q2⟩ := ex_cells x1
  have c0 := exc_checkSide (some ⟨V13.heap.size, 0, none⟩) (held_ints [0] (row_last V13 _ _ rfl) rfl) (x1.ext eA).bath
  go_upto_region 16 with (go_at_call 39; refine c0.mono ?_; rintro e V14 ⟨rfl, eV⟩)
  replace eV := eA.trans eV
  clear q0 q1 q2 c0
  replace x1 := x1.ext eV
  replace x2 := x2.ext eV
  replace r3 := row_ext r3 eV
  replace r4 := row_ext r4 eV
  replace r5 := row_ext r5 eV
  replace hw := hw.ext eV
  replace hx := hx.ext eV
  replace hg := hg.ext eV
  replace eW := eW.trans eV
  clear eV eA
  go_upto_region 18 with fail
  clear x1 x2
  have HW := Lib.hid eW
  refine wp_region_specs (ops := reg18) (worksS B1 c1 B2 c2 B3 c3) (Ext V14) (by kernel_rfl) (by kernel_rfl) ⟨rfl, rfl, rfl, Nat.le_refl _, fun _ _ => rfl⟩ (fun _ _ h e => h.trans e) (worksS_ext B1 c1 B2 c2 B3 c3) D39 (by kernel_rfl) ?_ ?_
  · intro i o ho a W hB hsz hold haft
    have hi : i < 40 := (Array.getElem?_eq_some_iff.1 ho).1
    match i, hi with
    | 0, _ => exact works_op0 r3 (hold 3 (by kernel_rfl)) ho hB haft
    | 1, _ => exact works_op1 ho hB haft
    | 2, _ => exact works_op2 ho hB haft
    | 3, _ => exact works_op3 ho hB haft
    | 4, _ => exact works_op4 (hold 5 (by kernel_rfl)) ho hB haft
    | 5, _ => exact works_op5 ho hB haft
    | 6, _ => exact works_op6 ho hB haft
    | 7, _ => exact works_op7 ho hB haft
    | 8, _ => exact works_op8 (hold 7 (by kernel_rfl)) ho hB haft
    | 9, _ => exact works_op9 ho hB haft
    | 10, _ => exact works_op10 ho hB haft
    | 11, _ => exact works_op11 ho hB haft
    | 12, _ => exact works_op12 r4 (hold 9 (by kernel_rfl)) ho hB haft
    | 13, _ => exact works_op13 ho hB haft
    | 14, _ => exact works_op14 ho hB haft
    | 15, _ => exact works_op15 ho hB haft
    | 16, _ => exact works_op16 ho hB haft
    | 17, _ => exact works_op17 (hold 13 (by kernel_rfl)) ho hB haft
    | 18, _ => exact works_op18 ho hB haft
    | 19, _ => exact works_op19 ho hB haft
    | 20, _ => exact works_op20 ho hB haft
    | 21, _ => exact works_op21 (hold 17 (by kernel_rfl)) ho hB haft
    | 22, _ => exact works_op22 ho hB haft
    | 23, _ => exact works_op23 hw ho hB haft
    | 24, _ => exact works_op24 ho hB haft
    | 25, _ => exact works_op25 ho hB haft
    | 26, _ => exact works_op26 (hold 21 (by kernel_rfl)) ho hB haft
    | 27, _ => exact works_op27 ho hB haft
    | 28, _ => exact works_op28 hx ho hB haft
    | 29, _ => exact works_op29 ho hB haft
    | 30, _ => exact works_op30 ho hB haft
    | 31, _ => exact works_op31 (hold 25 (by kernel_rfl)) ho hB haft
    | 32, _ => exact works_op32 ho hB haft
    | 33, _ => exact works_op33 ho hB haft
    | 34, _ => exact works_op34 ho hB haft
    | 35, _ => exact works_op35 ho hB haft
    | 36, _ => exact works_op36 ho hB haft
    | 37, _ => exact works_op37 hg ho hB haft
    | 38, _ => exact works_op38 ho hB haft
    | 39, _ => exact works_op39 ho hB haft
    | n + 40, h => exact absurd h (by omega)
  · intro a W hB hsz hdf hold hS
    have e39 : a.eval (.tmp 0) = .bool true := hS 39 (show 39 < reg18.size from Nat.lt_of_lt_of_eq (by omega) (show 40 = reg18.size by kernel_rfl))
    obtain ⟨tmps, dfs⟩ := a
    obtain rfl : dfs = [] := hdf
    simp only [Exit.then]
    go_at_K
    go_wp2
    exact bodyPost_ret (results_tmp rfl _ _ _) rfl ⟨congrArg Ending.returned e39, HW.out.trans hB⟩
end Go.Proofs.Ytckndnaohggmhaa
