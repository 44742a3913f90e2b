/- Texts of the package drop, joined: Ex, WorksC, WorksLast, Works, RefBase, RefSize, RefBath, RefSizeOps, RefSizeAns, SpecsFree, RefPlace, TouchOps. -/
import Derived.Test.YtgdpgdnhhjclcaaTu15
import Derived.Test.YtgdpgdnhhjclcaaTu17
import Derived.Test.YtgdpgdnhhjclcaaTu19
import Derived.Deep.Cut
/- The chapter's example baths: what the program's answers come to there, by reckoning. -/
namespace Go.Proofs.Ytgdpgdnhhjclcaa


theorem ex_fine : bathErr 100 exS exB = 0 := by kernel_rfl
theorem ex_fineC : bathErr 100 exS exC = 0 := by kernel_rfl
theorem ex_size : sizeAns 100 exS exB 0 = ((300, 444), 0) := by kernel_rfl
theorem ex_sizeC : sizeAns 100 exS exC 1 = ((0, 0), 0) := by kernel_rfl
theorem ex_touch : touchAns 100 exS exB 1 2 = (1, 0) := by kernel_rfl
theorem ex_touch2 : touchAns 100 exS exB (-1) 0 = (1, 0) := by kernel_rfl
theorem ex_touch3 : touchAns 100 exS exB 2 (-2) = (0, 0) := by kernel_rfl
theorem ex_beside : besideAns 100 exS exB 0 2 = (2, 0) := by kernel_rfl
theorem ex_beside2 : besideAns 100 exS exB 2 1 = (0, 0) := by kernel_rfl
theorem ex_beside3 : besideAns 100 exS exB 1 3 = (1, 0) := by kernel_rfl
theorem ex_first : firstAns 100 exS exB 0 1 = ((2, 3), 0) := by kernel_rfl
theorem ex_first2 : firstAns 100 exS exB 0 2 = ((0, 0), 17) := by kernel_rfl
theorem ex_first3 : firstAns 100 exS exB 1 2 = ((4, 5), 0) := by kernel_rfl
theorem ex_way : checkWayAns 100 exS exB [0, 1, 2] true = 17 := by kernel_rfl
theorem ex_side : checkSideAns 100 exS exB 0 2 [0] true = 14 := by kernel_rfl
theorem ex_forW : forErr 100 exS exB (-1) 2 = 0 := by kernel_rfl
theorem ex_for02 : forErr 100 exS exB 0 2 = 0 := by kernel_rfl
theorem ex_for0R : forErr 100 exS exB 0 (-2) = 0 := by kernel_rfl
theorem ex_outs : outs (tableOf 100 exS exB false) 5 4 4 1 ≠ 0 := by
  have : outs (tableOf 100 exS exB false) 5 4 4 1 = 4 := by kernel_rfl
  omega
theorem ex_wayOf : wayOf (tableOf 100 exS exB false) 5 1 4 = [1, 2, 3, 4] := by kernel_rfl
theorem ex_outs2 : outs (tableOf 100 exS exB true) 5 4 4 1 = 0 := by kernel_rfl
theorem ex_goes1 : goesC (tableOf 100 exS exB true) 5 2 4 = false := by kernel_rfl
theorem ex_list1 : listTo (goesC (tableOf 100 exS exB true) 5 2) 12 = [0, 1] := by kernel_rfl
theorem ex_goes2 : goesC (tableOf 100 exS exB false) 5 2 4 = true := by kernel_rfl
theorem ex_goes3 : goesC (tableOf 100 exS exB false) 5 2 0 = false := by kernel_rfl
theorem ex_list3 : listTo (goesC (tableOf 100 exS exB false) 5 2) 12 = [-1, 0, 1, 2] := by kernel_rfl
theorem ex_groups1 : groupsC 5 (sizes exB) (tableOf 100 exS exB true) = [[-2], [-1], [0, 1], [2]] := by kernel_rfl
theorem ex_groups0 : groupsC 5 (sizes exB) (tableOf 100 exS exB false) = [[-2], [-1, 0, 1, 2]] := by kernel_rfl
theorem ex_full : freeB 100 exS (sizes exB) 3 2 = false := by kernel_rfl
theorem ex_free1 : freeB 100 exS (sizes exC) 3 1 = true := by kernel_rfl
theorem ex_free0 : freeB 100 exS (sizes exC) 3 0 = true := by kernel_rfl
theorem ex_free2 : freeB 100 exS (sizes exC) 3 2 = true := by kernel_rfl
theorem ex_room1 {r : Nat} (h : Begins (tooFar 100 exS (sizes exC) 3 1) 10000 r) : r = 323 := begins_eq h (by omega) (.inr (by kernel_rfl)) (.inr (by kernel_rfl))
theorem ex_room0 {r : Nat} (h : Begins (tooFar 100 exS (sizes exC) 3 0) 10000 r) : r = 255 := begins_eq h (by omega) (.inr (by kernel_rfl)) (.inr (by kernel_rfl))
theorem ex_room2 {r : Nat} (h : Begins (tooFar 100 exS (sizes exC) 3 2) 10000 r) : r = 299 := begins_eq h (by omega) (.inr (by kernel_rfl)) (.inr (by kernel_rfl))
end Go.Proofs.Ytgdpgdnhhjclcaa

/- What the program's functions answer at the chapter's example baths. -/
namespace Go.Proofs.Ytgdpgdnhhjclcaa
open Go.RowKit Go.Shelf

/-- Memory has grown, nothing that was there has turned. -/
def Ext (W W' : World) : Prop := Below W.heap.size W W'
theorem Ext.trans {a b c : World} (h : Ext a b) (g : Ext b c) : Ext a c := Below.trans h (g.mono h.size)
theorem Ext.refl (a : World) : Ext a a := Below.refl _ a
theorem Held.ext {α : Type} {w w' : World} {k : Nat} {enc : α → List Value} {A : Option Addr} {xs : List α} (h : Held w w.heap.size k enc A xs) (e : Ext w w') : Held w' w'.heap.size k enc A xs := (h.kept e (Nat.le_refl _)).wider e.size
theorem HeldRows.ext {w w' : World} {A : Option Addr} {xs : List (List Int)} (h : HeldRows w w.heap.size A xs) (e : Ext w w') : HeldRows w' w'.heap.size A xs := (HeldRows.kept h e (Nat.le_refl _)).wider e.size
theorem row_ext {w w' : World} {g : Nat} {o : Obj} (h : w.heap[g]? = some o) (e : Ext w w') : w'.heap[g]? = some o := (Below.block e g (Array.getElem?_eq_some_iff.1 h).1).trans h

/-- A variable at p that holds an example bath. -/
structure ExAt (W : World) (p : Nat) (A : Option Addr) (A' : Option Addr) (k : Nat) (ds : List (Int × Int × Int)) : Prop where
  row : W.heap[p]? = some (.cells #[.int .i64 100, .slice A 3 3, .slice A' k k] 25 (0, 0))
  bath : IsBath W W.heap.size A 3 3 A' k k exS ds
theorem ExAt.ext {W W' : World} {p : Nat} {A A' : Option Addr} {k : Nat} {ds : List (Int × Int × Int)} (h : ExAt W p A A' k ds) (e : Ext W W') : ExAt W' p A A' k ds :=
  ⟨row_ext h.row e, (h.bath.kept e (Nat.le_refl _)).wider e.size⟩

section
variable {W : World} {A A' : Option Addr}
theorem exc_size (h : IsBath W W.heap.size A 3 3 A' 4 4 exS exB) : Calls Try.prog 17 #[.agg #[.int .i64 100, .slice A 3 3, .slice A' 4 4], .int .i64 0] W fun e w' => e = .returned (.tuple #[.agg #[.int .i64 300, .int .i64 444], .int .i64 0]) ∧ Ext W w' := by
  have := size_any (Wd := 100) 0 h
  rw [ex_size] at this
  exact this
theorem exc_sizeC (h : IsBath W W.heap.size A 3 3 A' 2 2 exS exC) : Calls Try.prog 17 #[.agg #[.int .i64 100, .slice A 3 3, .slice A' 2 2], .int .i64 1] W fun e w' => e = .returned (.tuple #[.agg #[.int .i64 0, .int .i64 0], .int .i64 0]) ∧ Ext W w' := by
  have := size_any (Wd := 100) 1 h
  rw [ex_sizeC] at this
  exact this
theorem exc_touch (one two k : Int) (hk : touchAns 100 exS exB one two = (k, 0)) (h : IsBath W W.heap.size A 3 3 A' 4 4 exS exB) : Calls Try.prog 21 #[.agg #[.int .i64 100, .slice A 3 3, .slice A' 4 4], .int .i64 one, .int .i64 two] W fun e w' => e = .returned (.tuple #[.int .i64 k, .int .i64 0]) ∧ Ext W w' := by
  have := touch_any (Wd := 100) one two h
  rw [hk] at this
  exact this
theorem exc_beside (one two k : Int) (hk : besideAns 100 exS exB one two = (k, 0)) (h : IsBath W W.heap.size A 3 3 A' 4 4 exS exB) : Calls Try.prog 23 #[.agg #[.int .i64 100, .slice A 3 3, .slice A' 4 4], .int .i64 one, .int .i64 two] W fun e w' => e = .returned (.tuple #[.int .i64 k, .int .i64 0]) ∧ Ext W w' := by
  have := beside_any (Wd := 100) one two h
  rw [hk] at this
  exact this
theorem exc_first (one two lo hi e0 : Int) (he : forErr 100 exS exB one two = 0) (hk : firstAns 100 exS exB one two = ((lo, hi), e0)) (h : IsBath W W.heap.size A 3 3 A' 4 4 exS exB) : Calls Try.prog 25 #[.agg #[.int .i64 100, .slice A 3 3, .slice A' 4 4], .int .i64 one, .int .i64 two] W fun e w' => e = .returned (.tuple #[.agg #[.int .i64 lo, .int .i64 hi], .int .i64 e0]) ∧ Ext W w' := by
  have := first_ok (Wd := 100) one two h he
  rw [hk] at this
  exact this
theorem exc_full (h : IsBath W W.heap.size A 3 3 A' 4 4 exS exB) : Calls Try.prog 27 #[.agg #[.int .i64 100, .slice A 3 3, .slice A' 4 4], .int .i64 2] W fun e w' => e = .returned (.tuple #[.int .i64 0, .int .i64 10]) ∧ Ext W w' := by
  refine (room_any (Wd := 100) 2 h).mono ?_
  rintro e w' ⟨hi, hb⟩
  refine ⟨?_, hb⟩
  unfold RoomIs at hi
  rw [if_pos ex_fine, if_pos (by kernel_rfl), if_neg (by rw [show freeB 100 exS (sizes exB) exS.length 2 = false from ex_full]; simp)] at hi
  exact hi
theorem exc_room (s : Nat) (n : Int) (hs : (decide (0 ≤ (s : Int)) && decide ((s : Int) < (exS.length : Int))) = true) (hf : freeB 100 exS (sizes exC) 3 s = true) (hr : ∀ r : Nat, Begins (tooFar 100 exS (sizes exC) 3 s) 10000 r → (r : Int) = n) (h : IsBath W W.heap.size A 3 3 A' 2 2 exS exC) :
    Calls Try.prog 27 #[.agg #[.int .i64 100, .slice A 3 3, .slice A' 2 2], .int .i64 s] W fun e w' => e = .returned (.tuple #[.int .i64 n, .int .i64 0]) ∧ Ext W w' := by
  refine (room_any (Wd := 100) s h).mono ?_
  rintro e w' ⟨hi, hb⟩
  refine ⟨?_, hb⟩
  unfold RoomIs at hi
  rw [if_pos ex_fineC, if_pos hs, if_pos (show freeB 100 exS (sizes exC) exS.length s = true from hf)] at hi
  obtain ⟨r, he, hB⟩ := hi
  rw [Int.toNat_natCast] at hB
  rw [he, hr r hB]
theorem exc_way (h : IsBath W W.heap.size A 3 3 A' 4 4 exS exB) : Calls Try.prog 29 #[.agg #[.int .i64 100, .slice A 3 3, .slice A' 4 4], .int .i64 (-1), .int .i64 2, .bool false] W fun e w' => (∃ B c, e = .returned (.tuple #[.slice B 4 c, .int .i64 0]) ∧ Held w' w'.heap.size 1 encI B [-1, 0, 1, 2]) ∧ Ext W w' := by
  refine (bigWay_any (Wd := 100) (-1) 2 false h).mono ?_
  rintro e w' ⟨hb, h1 | h1 | h1⟩
  · exact absurd ex_forW h1.1
  · exact absurd h1.2.1 ex_outs
  · obtain ⟨_, _, B, l, c, rfl, _, hh, hl⟩ := h1
    have e1 : l = [1, 2, 3, 4] := hl.trans ex_wayOf
    subst e1
    exact ⟨⟨B, c, rfl, hh⟩, hb⟩
theorem exc_noway (h : IsBath W W.heap.size A 3 3 A' 4 4 exS exB) : Calls Try.prog 29 #[.agg #[.int .i64 100, .slice A 3 3, .slice A' 4 4], .int .i64 (-1), .int .i64 2, .bool true] W fun e w' => e = .returned (.tuple #[.slice none 0 0, .int .i64 5]) ∧ Ext W w' := by
  refine (bigWay_any (Wd := 100) (-1) 2 true h).mono ?_
  rintro e w' ⟨hb, h1 | h1 | h1⟩
  · exact absurd ex_forW h1.1
  · exact ⟨h1.2.2, hb⟩
  · exact absurd ex_outs2 h1.2.1

theorem exT_lt (sure : Bool) (i j : Nat) (h : tableOf 100 exS exB sure i j = true) : i < 5 ∧ j < 5 ∧ i ≠ j := tableOf_lt i j h
theorem ex_goesB (sure : Bool) : goesB (tableOf 100 exS exB sure) 2 = goesC (tableOf 100 exS exB sure) 5 2 :=
  goesB_goesC (n := 5) (by omega) (by omega) (exT_lt sure) (fun i j => tableOf_sym i j) (by omega)

/-- A list that the program made, as the walk of a law reads it. -/
theorem owns_cells {base n : Nat} {ty : TypeId} {v : Value} {cells : List Value} {W : World} (h : W.ownsRow base ty 1 v n cells) (hn : n ≠ 0) :
    ∃ g cap, v = .slice (some ⟨g, 0, none⟩) n cap ∧ g < W.heap.size ∧ ∀ (j : Nat) (x : Value), j < n → cells[j]? = some x → W.cell? ⟨g, j, none⟩ = some x := by
  rcases h.2 with ⟨_, e⟩ | ⟨g, cap, cur, e, hg, hc, h1, h2, h3, h4⟩
  · exact absurd e hn
  · refine ⟨g, cap, e, (Array.getElem?_eq_some_iff.1 hc).1, fun j x hj hx => (cell_of_row _ _ _ _ _ _ hc).trans ?_⟩
    rw [← h4, List.getElem?_take, if_pos (by omega)] at hx
    simpa using hx
theorem made_held {base : Nat} {xs : List Int} {w : World} {v : Value} (h : MadeInts base xs w v) (hx : xs ≠ []) : ∃ B c, v = .slice B xs.length c ∧ Held w w.heap.size 1 encI B xs := by
  obtain ⟨g, cap, e, hg, hc⟩ := owns_cells h.1 (fun e => hx (List.eq_nil_of_length_eq_zero e))
  refine ⟨_, cap, e, .inr ⟨g, 0, rfl, hg, fun j x hj i u hu => ?_⟩⟩
  match i, hu with
  | 0, hu =>
    simp only [encI, List.length_cons, List.length_nil, Nat.zero_lt_succ, List.getElem?_cons_zero, Option.some.injEq] at hu
    subst hu
    rw [Nat.zero_add, Nat.mul_one, Nat.add_zero]
    exact hc j _ (List.getElem?_eq_some_iff.1 hj).1 (by rw [List.getElem?_map, hj]; rfl)
theorem groups_held {base : Nat} {gs : List (Value × List Int)} {w : World} {v : Value} {xss : List (List Int)} (h : GroupsAt base gs w v) (hg : gs.map (·.2) = xss) (hx : xss ≠ []) (hxs : ∀ xs, xs ∈ xss → xs ≠ []) (hl : ∀ xs, xs ∈ xss → xs.length ≤ 9223372036854775807) :
    ∃ B c, v = .slice B xss.length c ∧ HeldRows w w.heap.size B xss := by
  subst hg
  obtain ⟨g, cap, e, hgl, hc⟩ := owns_cells h.row (fun e => hx (by rw [List.eq_nil_of_length_eq_zero e]; rfl))
  refine ⟨_, cap, by rw [List.length_map]; exact e, .inr ⟨g, 0, rfl, hgl, fun j xs hj => ?_⟩⟩
  rw [List.getElem?_map, Option.map_eq_some_iff] at hj
  obtain ⟨p, hp, rfl⟩ := hj
  have hm := List.mem_of_getElem? hp
  obtain ⟨B, c, e2, hh⟩ := made_held (h.each p hm) (hxs _ (List.mem_map_of_mem hm))
  refine ⟨B, c, ?_, hh, hl _ (List.mem_map_of_mem hm)⟩
  rw [Nat.zero_add, ← e2]
  exact hc j _ (List.getElem?_eq_some_iff.1 hp).1 (by rw [List.getElem?_map, hp]; rfl)

theorem exc_side (sure : Bool) (two : Int) (xs : List Int) (hx : xs ≠ []) (he : forErr 100 exS exB 0 two = 0) (hn : goesC (tableOf 100 exS exB sure) 5 2 (two + 2).toNat = false) (hl : listTo (goesC (tableOf 100 exS exB sure) 5 2) 12 = xs)
    (h : IsBath W W.heap.size A 3 3 A' 4 4 exS exB) : Calls Try.prog 34 #[.agg #[.int .i64 100, .slice A 3 3, .slice A' 4 4], .int .i64 0, .int .i64 two, .bool sure] W fun e w' => (∃ B c, e = .returned (.tuple #[.slice B xs.length c, .int .i64 0]) ∧ Held w' w'.heap.size 1 encI B xs) ∧ Ext W w' := by
  refine (side_any (Wd := 100) 0 two sure h).mono ?_
  intro e w' hp
  obtain ⟨hb, h1 | h1 | h1⟩ := side_reach hp
  · exact absurd he h1.1
  · exfalso
    have := h1.2.1
    rw [show ((0 : Int) + 2).toNat = 2 from rfl, ex_goesB, hn] at this
    cases this
  · obtain ⟨_, _, v, rfl, hm⟩ := h1
    rw [show ((0 : Int) + 2).toNat = 2 from rfl, ex_goesB, hl] at hm
    obtain ⟨B, c, rfl, hh⟩ := made_held hm hx
    exact ⟨⟨B, c, rfl, hh⟩, hb⟩
theorem exc_have (h : IsBath W W.heap.size A 3 3 A' 4 4 exS exB) : Calls Try.prog 34 #[.agg #[.int .i64 100, .slice A 3 3, .slice A' 4 4], .int .i64 0, .int .i64 2, .bool false] W fun e w' => e = .returned (.tuple #[.slice none 0 0, .int .i64 11]) ∧ Ext W w' := by
  refine (side_any (Wd := 100) 0 2 false h).mono ?_
  intro e w' hp
  obtain ⟨hb, h1 | h1 | h1⟩ := side_reach hp
  · exact absurd ex_for02 h1.1
  · exact ⟨h1.2.2, hb⟩
  · exfalso
    have := h1.2.1
    rw [show ((0 : Int) + 2).toNat = 2 from rfl, ex_goesB, show ((2 : Int) + 2).toNat = 4 from rfl, ex_goes2] at this
    cases this
theorem exc_groups (sure : Bool) (xss : List (List Int)) (hx : xss ≠ []) (hxs : ∀ xs, xs ∈ xss → xs ≠ []) (hl : ∀ xs, xs ∈ xss → xs.length ≤ 9223372036854775807) (hg : groupsC 5 (sizes exB) (tableOf 100 exS exB sure) = xss) (h : IsBath W W.heap.size A 3 3 A' 4 4 exS exB) :
    Calls Try.prog 36 #[.agg #[.int .i64 100, .slice A 3 3, .slice A' 4 4], .bool sure] W fun e w' => (∃ B c, e = .returned (.tuple #[.slice B xss.length c, .int .i64 0]) ∧ HeldRows w' w'.heap.size B xss) ∧ Ext W w' := by
  refine (groups_any (Wd := 100) sure h).mono ?_
  rintro e w' ⟨hb, h1 | ⟨_, v, gs, rfl, hG, hgs⟩⟩
  · exact absurd ex_fine h1.1
  · have e1 : groupsOf (sizes exB) (tableOf 100 exS exB sure) (List.finRange (exS.length + 2)) = xss := (groupsOf_C (n := 5) (sizes exB) (by omega) (by omega) (exT_lt sure) (fun i j => tableOf_sym i j)).trans hg
    rw [e1] at hgs
    obtain ⟨B, c, rfl, hh⟩ := groups_held hG hgs hx hxs hl
    exact ⟨⟨B, c, rfl, hh⟩, hb⟩
theorem exc_checkWay (L : Option Addr) (hh : Held W W.heap.size 1 encI L [0, 1, 2]) (h : IsBath W W.heap.size A 3 3 A' 4 4 exS exB) : Calls Try.prog 32 #[.agg #[.int .i64 100, .slice A 3 3, .slice A' 4 4], .slice L 3 3, .bool true] W fun e w' => e = .returned (.int .i64 17) ∧ Ext W w' := by
  have := checkWay_any (Wd := 100) L 3 3 [0, 1, 2] true h rfl (by omega) hh
  rw [ex_way] at this
  exact this
theorem exc_checkSide (L : Option Addr) (hh : Held W W.heap.size 1 encI L [0]) (h : IsBath W W.heap.size A 3 3 A' 4 4 exS exB) : Calls Try.prog 39 #[.agg #[.int .i64 100, .slice A 3 3, .slice A' 4 4], .int .i64 0, .int .i64 2, .slice L 1 1, .bool true] W fun e w' => e = .returned (.int .i64 14) ∧ Ext W w' := by
  have := checkSide_any (Wd := 100) 0 2 L 1 1 [0] true h rfl (by omega) hh
  rw [ex_side] at this
  exact this
end
end Go.Proofs.Ytgdpgdnhhjclcaa

/- The last statement of Works: what each of its operations yields. -/
namespace Go.Proofs.Ytgdpgdnhhjclcaa
open Go.RowKit Go.Shelf

theorem held_ints {W : World} {g : Nat} {cs : Array Value} {fr : TypeId} (xs : List Int) (h : W.heap[g]? = some (.cells cs fr (0, 0))) (hcs : cs = (xs.map (Value.int .i64)).toArray) : Held W W.heap.size 1 encI (some ⟨g, 0, none⟩) xs :=
  held_row h (Array.getElem?_eq_some_iff.1 h).1 fun j x hj i v hi => by
    match i, hi with
    | 0, hi =>
      simp only [encI, List.getElem?_cons_zero, Option.some.injEq] at hi
      subst hi
      rw [Nat.mul_one, Nat.add_zero, hcs]
      simp [hj]

def D39 (i : Nat) : Tmp := if i = 39 then 0 else 151 + i
theorem rows4 {W : World} {g l32 l33 l34 l35 : Nat} (h : W.heap[g]? = some (.cells #[.slice (some ⟨l32, 0, none⟩) 1 1, .slice (some ⟨l33, 0, none⟩) 1 1, .slice (some ⟨l34, 0, none⟩) 2 2, .slice (some ⟨l35, 0, none⟩) 1 1] 42 (0, 0)))
    (h0 : Held W W.heap.size 1 encI (some ⟨l32, 0, none⟩) [-2]) (h1 : Held W W.heap.size 1 encI (some ⟨l33, 0, none⟩) [-1]) (h2 : Held W W.heap.size 1 encI (some ⟨l34, 0, none⟩) [0, 1]) (h3 : Held W W.heap.size 1 encI (some ⟨l35, 0, none⟩) [2]) :
    HeldRows W W.heap.size (some ⟨g, 0, none⟩) [[-2], [-1], [0, 1], [2]] :=
  .inr ⟨g, 0, rfl, (Array.getElem?_eq_some_iff.1 h).1, fun j xs hj => by
    match j, hj with
    | 0, hj => cases hj; exact ⟨_, _, cell_of_row _ _ _ _ _ _ h, h0, by simp⟩
    | 1, hj => cases hj; exact ⟨_, _, cell_of_row _ _ _ _ _ _ h, h1, by simp⟩
    | 2, hj => cases hj; exact ⟨_, _, cell_of_row _ _ _ _ _ _ h, h2, by simp⟩
    | 3, hj => cases hj; exact ⟨_, _, cell_of_row _ _ _ _ _ _ h, h3, by simp⟩⟩

/-- A list that was laid out as it stands in the text. -/
def Lit (xs : List Int) (v : Value) (W : World) : Prop := ∃ g, v = .slice (some ⟨g, 0, none⟩) xs.length xs.length ∧ Held W W.heap.size 1 encI (some ⟨g, 0, none⟩) xs
theorem Lit.ext {xs : List Int} {v : Value} {W W' : World} (h : Lit xs v W) (e : Ext W W') : Lit xs v W' := by
  obtain ⟨g, rfl, hh⟩ := h
  exact ⟨g, rfl, hh.ext e⟩
/-- What each operation of the last statement of Works yields. -/
def worksS (B1 : Option Addr) (c1 : Nat) (B2 : Option Addr) (c2 : Nat) (B3 : Option Addr) (c3 : Nat) (i : Nat) (v : Value) (W : World) : Prop :=
  match i with
  | 0 => v = .agg #[.int .i64 300, .int .i64 444]
  | 1 => v = .agg #[.int .i64 300, .int .i64 444]
  | 4 => v = .int .i64 1
  | 8 => v = .int .i64 2
  | 12 => v = .agg #[.int .i64 2, .int .i64 3]
  | 13 => v = .agg #[.int .i64 2, .int .i64 3]
  | 17 => v = .int .i64 323
  | 21 => v = .slice B1 4 c1
  | 22 => Lit [-1, 0, 1, 2] v W
  | 26 => v = .slice B2 2 c2
  | 27 => Lit [0, 1] v W
  | 31 => v = .slice B3 4 c3
  | 32 => Lit [-2] v W
  | 33 => Lit [-1] v W
  | 34 => Lit [0, 1] v W
  | 35 => Lit [2] v W
  | 36 => ∃ g, v = .slice (some ⟨g, 0, none⟩) 4 4 ∧ HeldRows W W.heap.size (some ⟨g, 0, none⟩) [[-2], [-1], [0, 1], [2]]
  | _ => v = .bool true
theorem worksS_ext (B1 : Option Addr) (c1 : Nat) (B2 : Option Addr) (c2 : Nat) (B3 : Option Addr) (c3 : Nat) (i : Nat) (v : Value) (W W' : World) (h : worksS B1 c1 B2 c2 B3 c3 i v W) (e : Below W.heap.size W W') : worksS B1 c1 B2 c2 B3 c3 i v W' := by
  unfold worksS at h ⊢
  split at h <;> first | exact h | exact Lit.ext h e | (obtain ⟨g, rfl, hh⟩ := h; exact ⟨g, rfl, hh.ext e⟩)

/-- The k-th region of a body. -/
def regionOf : Code → Nat → Option (Array Oper)
  | .region i ops _, k => if i = k then some ops else none
  | .seq a b, k => (regionOf a k).or (regionOf b k)
  | .cond _ a b, k => (regionOf a k).or (regionOf b k)
  | .block _ c, k => regionOf c k
  | .loop c, k => regionOf c k
  | .scope c, k => regionOf c k
  | _, _ => none
noncomputable def reg18 : Array Oper := (Try.f16.body.bind (regionOf · 18)).getD #[]
theorem op_at {ops : Array Oper} {i : Nat} {o : Oper} {α : Type} (ho : ops[i]? = some o) (f : Oper → α) {x : α} (h : (ops[i]?).map f = some x) : f o = x := by
  rw [ho] at h
  simpa using h
theorem ev {a : Act} {t : Tmp} {v : Value} (h : a.eval (.tmp t) = v) : a.tmps[t]?.getD undef = v := by simpa [Act.eval] using h
/-- The operation i of the statement does what it is to do. -/
def WorksOk (B1 : Option Addr) (c1 : Nat) (B2 : Option Addr) (c2 : Nat) (B3 : Option Addr) (c3 : Nat) (Q : Exit → Act → World → Prop) (a : Act) (W : World) (i : Nat) (o : Oper) : Prop :=
  (∀ j b, o.guard = some (j, b) → a.eval (.tmp (D39 j)) = .bool b) ∧ o.wp Try.prog a W (fun a'' W' => ∃ v, a'' = a.put o.dst v ∧ worksS B1 c1 B2 c2 B3 c3 i v W' ∧ Below W.heap.size W W') Q

section
variable {B1 B2 B3 : Option Addr} {c1 c2 c3 p3 p4 : Nat} {Q : Exit → Act → World → Prop} {a : Act} {V W : World} {o : Oper}
theorem works_op0 (r3 : V.heap[p3]? = some (.cells #[.int .i64 300, .int .i64 444] 29 (0, 0))) (o3 : a.eval (.tmp 3) = .pointer (some ⟨p3, 0, none⟩)) (ho : reg18[0]? = some o) (hB : Ext V W) (haft : ∀ j, (o.after.any fun e => decide (e.on = j) && Region.binds .any e) = true → worksS B1 c1 B2 c2 B3 c3 j (a.eval (.tmp (D39 j))) W) : WorksOk B1 c1 B2 c2 B3 c3 Q a W 0 o := by
  have hop := op_at ho (·.op) (x := .load 29 (.tmp 3)) (by kernel_rfl)
  have hgd := op_at ho (·.guard) (x := none) (by kernel_rfl)
  refine ⟨fun j b h => (by rw [hgd] at h; cases h), ?_⟩
  have hl0 : W.cell? ⟨p3, 0, none⟩ = some (.int .i64 300) := cell_of_row _ _ 0 _ _ _ (row_ext r3 hB)
  have hl1 : W.cell? ⟨p3, 1, none⟩ = some (.int .i64 444) := cell_of_row _ _ 1 _ _ _ (row_ext r3 hB)
  exact specs_value (R := worksS B1 c1 B2 c2 B3 c3 0) (v := .agg #[.int .i64 300, .int .i64 444]) (by simp [execOp, hop, go_sem, ev o3, hl0, hl1]) rfl (Ext.refl W)
theorem works_op1 (ho : reg18[1]? = some o) (hB : Ext V W) (haft : ∀ j, (o.after.any fun e => decide (e.on = j) && Region.binds .any e) = true → worksS B1 c1 B2 c2 B3 c3 j (a.eval (.tmp (D39 j))) W) : WorksOk B1 c1 B2 c2 B3 c3 Q a W 1 o := by
  have hop := op_at ho (·.op) (x := .call { callee := .value (.func 57), args := #[.const (.int .i64 300), .const (.int .i64 444)], argTypes := #[2, 2] }) (by kernel_rfl)
  have hgd := op_at ho (·.guard) (x := none) (by kernel_rfl)
  refine ⟨fun j b h => (by rw [hgd] at h; cases h), ?_⟩
  exact specs_call (R := worksS B1 c1 B2 c2 B3 c3 1) (f := 57) (args := #[.int .i64 300, .int .i64 444]) (by simp [execOp, hop, go_sem]) ((rg_any 300 444 W).mono fun e w' h => ⟨_, h.1, rfl, h.2⟩)
theorem works_op2 (ho : reg18[2]? = some o) (hB : Ext V W) (haft : ∀ j, (o.after.any fun e => decide (e.on = j) && Region.binds .any e) = true → worksS B1 c1 B2 c2 B3 c3 j (a.eval (.tmp (D39 j))) W) : WorksOk B1 c1 B2 c2 B3 c3 Q a W 2 o := by
  have hop := op_at ho (·.op) (x := .binOp .eql 29 (.tmp 151) (.tmp 152) 29) (by kernel_rfl)
  have hgd := op_at ho (·.guard) (x := none) (by kernel_rfl)
  have e0 : a.eval (.tmp 151) = .agg #[.int .i64 300, .int .i64 444] := haft 0 (op_at ho (fun o => o.after.any fun e => decide (e.on = 0) && Region.binds .any e) (x := true) (by kernel_rfl))
  have e1 : a.eval (.tmp 152) = .agg #[.int .i64 300, .int .i64 444] := haft 1 (op_at ho (fun o => o.after.any fun e => decide (e.on = 1) && Region.binds .any e) (x := true) (by kernel_rfl))
  refine ⟨fun j b h => (by rw [hgd] at h; cases h), ?_⟩
  exact specs_value (R := worksS B1 c1 B2 c2 B3 c3 2) (v := .bool true) (by simp [execOp, hop, go_sem, ev e0, ev e1]) rfl (Ext.refl W)
theorem works_op3 (ho : reg18[3]? = some o) (hB : Ext V W) (haft : ∀ j, (o.after.any fun e => decide (e.on = j) && Region.binds .any e) = true → worksS B1 c1 B2 c2 B3 c3 j (a.eval (.tmp (D39 j))) W) : WorksOk B1 c1 B2 c2 B3 c3 Q a W 3 o := by
  have hop := op_at ho (·.op) (x := .move (.tmp 153)) (by kernel_rfl)
  have hgd := op_at ho (·.guard) (x := none) (by kernel_rfl)
  have e2 : a.eval (.tmp 153) = .bool true := haft 2 (op_at ho (fun o => o.after.any fun e => decide (e.on = 2) && Region.binds .any e) (x := true) (by kernel_rfl))
  refine ⟨fun j b h => (by rw [hgd] at h; cases h), ?_⟩
  exact specs_value (R := worksS B1 c1 B2 c2 B3 c3 3) (v := .bool true) (by simp [execOp, hop, go_sem, ev e2]) rfl (Ext.refl W)
theorem works_op4 (o5 : a.eval (.tmp 5) = .int .i64 1) (ho : reg18[4]? = some o) (hB : Ext V W) (haft : ∀ j, (o.after.any fun e => decide (e.on = j) && Region.binds .any e) = true → worksS B1 c1 B2 c2 B3 c3 j (a.eval (.tmp (D39 j))) W) : WorksOk B1 c1 B2 c2 B3 c3 Q a W 4 o := by
  have hop := op_at ho (·.op) (x := .move (.tmp 5)) (by kernel_rfl)
  have hgd := op_at ho (·.guard) (x := some (3, true)) (by kernel_rfl)
  have e3 : a.eval (.tmp 154) = .bool true := haft 3 (op_at ho (fun o => o.after.any fun e => decide (e.on = 3) && Region.binds .any e) (x := true) (by kernel_rfl))
  refine ⟨fun j b h => (by rw [hgd] at h; cases h; exact e3), ?_⟩
  exact specs_value (R := worksS B1 c1 B2 c2 B3 c3 4) (v := .int .i64 1) (by simp [execOp, hop, go_sem, ev o5]) rfl (Ext.refl W)
theorem works_op5 (ho : reg18[5]? = some o) (hB : Ext V W) (haft : ∀ j, (o.after.any fun e => decide (e.on = j) && Region.binds .any e) = true → worksS B1 c1 B2 c2 B3 c3 j (a.eval (.tmp (D39 j))) W) : WorksOk B1 c1 B2 c2 B3 c3 Q a W 5 o := by
  have hop := op_at ho (·.op) (x := .binOp .eql 3 (.tmp 155) (.const (.int .i64 1)) 3) (by kernel_rfl)
  have hgd := op_at ho (·.guard) (x := some (3, true)) (by kernel_rfl)
  have e4 : a.eval (.tmp 155) = .int .i64 1 := haft 4 (op_at ho (fun o => o.after.any fun e => decide (e.on = 4) && Region.binds .any e) (x := true) (by kernel_rfl))
  have e3 : a.eval (.tmp 154) = .bool true := haft 3 (op_at ho (fun o => o.after.any fun e => decide (e.on = 3) && Region.binds .any e) (x := true) (by kernel_rfl))
  refine ⟨fun j b h => (by rw [hgd] at h; cases h; exact e3), ?_⟩
  exact specs_value (R := worksS B1 c1 B2 c2 B3 c3 5) (v := .bool true) (by simp [execOp, hop, go_sem, ev e4]) rfl (Ext.refl W)
theorem works_op6 (ho : reg18[6]? = some o) (hB : Ext V W) (haft : ∀ j, (o.after.any fun e => decide (e.on = j) && Region.binds .any e) = true → worksS B1 c1 B2 c2 B3 c3 j (a.eval (.tmp (D39 j))) W) : WorksOk B1 c1 B2 c2 B3 c3 Q a W 6 o := by
  have hop := op_at ho (·.op) (x := .pick (.tmp 154) (.tmp 156) (.const (.bool false))) (by kernel_rfl)
  have hgd := op_at ho (·.guard) (x := none) (by kernel_rfl)
  have e3 : a.eval (.tmp 154) = .bool true := haft 3 (op_at ho (fun o => o.after.any fun e => decide (e.on = 3) && Region.binds .any e) (x := true) (by kernel_rfl))
  have e5 : a.eval (.tmp 156) = .bool true := haft 5 (op_at ho (fun o => o.after.any fun e => decide (e.on = 5) && Region.binds .any e) (x := true) (by kernel_rfl))
  refine ⟨fun j b h => (by rw [hgd] at h; cases h), ?_⟩
  exact specs_value (R := worksS B1 c1 B2 c2 B3 c3 6) (v := .bool true) (by simp [execOp, hop, go_sem, ev e3, ev e5]) rfl (Ext.refl W)
theorem works_op7 (ho : reg18[7]? = some o) (hB : Ext V W) (haft : ∀ j, (o.after.any fun e => decide (e.on = j) && Region.binds .any e) = true → worksS B1 c1 B2 c2 B3 c3 j (a.eval (.tmp (D39 j))) W) : WorksOk B1 c1 B2 c2 B3 c3 Q a W 7 o := by
  have hop := op_at ho (·.op) (x := .move (.tmp 157)) (by kernel_rfl)
  have hgd := op_at ho (·.guard) (x := none) (by kernel_rfl)
  have e6 : a.eval (.tmp 157) = .bool true := haft 6 (op_at ho (fun o => o.after.any fun e => decide (e.on = 6) && Region.binds .any e) (x := true) (by kernel_rfl))
  refine ⟨fun j b h => (by rw [hgd] at h; cases h), ?_⟩
  exact specs_value (R := worksS B1 c1 B2 c2 B3 c3 7) (v := .bool true) (by simp [execOp, hop, go_sem, ev e6]) rfl (Ext.refl W)
theorem works_op8 (o7 : a.eval (.tmp 7) = .int .i64 2) (ho : reg18[8]? = some o) (hB : Ext V W) (haft : ∀ j, (o.after.any fun e => decide (e.on = j) && Region.binds .any e) = true → worksS B1 c1 B2 c2 B3 c3 j (a.eval (.tmp (D39 j))) W) : WorksOk B1 c1 B2 c2 B3 c3 Q a W 8 o := by
  have hop := op_at ho (·.op) (x := .move (.tmp 7)) (by kernel_rfl)
  have hgd := op_at ho (·.guard) (x := some (7, true)) (by kernel_rfl)
  have e7 : a.eval (.tmp 158) = .bool true := haft 7 (op_at ho (fun o => o.after.any fun e => decide (e.on = 7) && Region.binds .any e) (x := true) (by kernel_rfl))
  refine ⟨fun j b h => (by rw [hgd] at h; cases h; exact e7), ?_⟩
  exact specs_value (R := worksS B1 c1 B2 c2 B3 c3 8) (v := .int .i64 2) (by simp [execOp, hop, go_sem, ev o7]) rfl (Ext.refl W)
theorem works_op9 (ho : reg18[9]? = some o) (hB : Ext V W) (haft : ∀ j, (o.after.any fun e => decide (e.on = j) && Region.binds .any e) = true → worksS B1 c1 B2 c2 B3 c3 j (a.eval (.tmp (D39 j))) W) : WorksOk B1 c1 B2 c2 B3 c3 Q a W 9 o := by
  have hop := op_at ho (·.op) (x := .binOp .eql 3 (.tmp 159) (.const (.int .i64 2)) 3) (by kernel_rfl)
  have hgd := op_at ho (·.guard) (x := some (7, true)) (by kernel_rfl)
  have e8 : a.eval (.tmp 159) = .int .i64 2 := haft 8 (op_at ho (fun o => o.after.any fun e => decide (e.on = 8) && Region.binds .any e) (x := true) (by kernel_rfl))
  have e7 : a.eval (.tmp 158) = .bool true := haft 7 (op_at ho (fun o => o.after.any fun e => decide (e.on = 7) && Region.binds .any e) (x := true) (by kernel_rfl))
  refine ⟨fun j b h => (by rw [hgd] at h; cases h; exact e7), ?_⟩
  exact specs_value (R := worksS B1 c1 B2 c2 B3 c3 9) (v := .bool true) (by simp [execOp, hop, go_sem, ev e8]) rfl (Ext.refl W)
theorem works_op10 (ho : reg18[10]? = some o) (hB : Ext V W) (haft : ∀ j, (o.after.any fun e => decide (e.on = j) && Region.binds .any e) = true → worksS B1 c1 B2 c2 B3 c3 j (a.eval (.tmp (D39 j))) W) : WorksOk B1 c1 B2 c2 B3 c3 Q a W 10 o := by
  have hop := op_at ho (·.op) (x := .pick (.tmp 158) (.tmp 160) (.const (.bool false))) (by kernel_rfl)
  have hgd := op_at ho (·.guard) (x := none) (by kernel_rfl)
  have e7 : a.eval (.tmp 158) = .bool true := haft 7 (op_at ho (fun o => o.after.any fun e => decide (e.on = 7) && Region.binds .any e) (x := true) (by kernel_rfl))
  have e9 : a.eval (.tmp 160) = .bool true := haft 9 (op_at ho (fun o => o.after.any fun e => decide (e.on = 9) && Region.binds .any e) (x := true) (by kernel_rfl))
  refine ⟨fun j b h => (by rw [hgd] at h; cases h), ?_⟩
  exact specs_value (R := worksS B1 c1 B2 c2 B3 c3 10) (v := .bool true) (by simp [execOp, hop, go_sem, ev e7, ev e9]) rfl (Ext.refl W)
theorem works_op11 (ho : reg18[11]? = some o) (hB : Ext V W) (haft : ∀ j, (o.after.any fun e => decide (e.on = j) && Region.binds .any e) = true → worksS B1 c1 B2 c2 B3 c3 j (a.eval (.tmp (D39 j))) W) : WorksOk B1 c1 B2 c2 B3 c3 Q a W 11 o := by
  have hop := op_at ho (·.op) (x := .move (.tmp 161)) (by kernel_rfl)
  have hgd := op_at ho (·.guard) (x := none) (by kernel_rfl)
  have e10 : a.eval (.tmp 161) = .bool true := haft 10 (op_at ho (fun o => o.after.any fun e => decide (e.on = 10) && Region.binds .any e) (x := true) (by kernel_rfl))
  refine ⟨fun j b h => (by rw [hgd] at h; cases h), ?_⟩
  exact specs_value (R := worksS B1 c1 B2 c2 B3 c3 11) (v := .bool true) (by simp [execOp, hop, go_sem, ev e10]) rfl (Ext.refl W)
theorem works_op12 (r4 : V.heap[p4]? = some (.cells #[.int .i64 2, .int .i64 3] 29 (0, 0))) (o9 : a.eval (.tmp 9) = .pointer (some ⟨p4, 0, none⟩)) (ho : reg18[12]? = some o) (hB : Ext V W) (haft : ∀ j, (o.after.any fun e => decide (e.on = j) && Region.binds .any e) = true → worksS B1 c1 B2 c2 B3 c3 j (a.eval (.tmp (D39 j))) W) : WorksOk B1 c1 B2 c2 B3 c3 Q a W 12 o := by
  have hop := op_at ho (·.op) (x := .load 29 (.tmp 9)) (by kernel_rfl)
  have hgd := op_at ho (·.guard) (x := some (11, true)) (by kernel_rfl)
  have e11 : a.eval (.tmp 162) = .bool true := haft 11 (op_at ho (fun o => o.after.any fun e => decide (e.on = 11) && Region.binds .any e) (x := true) (by kernel_rfl))
  refine ⟨fun j b h => (by rw [hgd] at h; cases h; exact e11), ?_⟩
  have hl0 : W.cell? ⟨p4, 0, none⟩ = some (.int .i64 2) := cell_of_row _ _ 0 _ _ _ (row_ext r4 hB)
  have hl1 : W.cell? ⟨p4, 1, none⟩ = some (.int .i64 3) := cell_of_row _ _ 1 _ _ _ (row_ext r4 hB)
  exact specs_value (R := worksS B1 c1 B2 c2 B3 c3 12) (v := .agg #[.int .i64 2, .int .i64 3]) (by simp [execOp, hop, go_sem, ev o9, hl0, hl1]) rfl (Ext.refl W)
theorem works_op13 (ho : reg18[13]? = some o) (hB : Ext V W) (haft : ∀ j, (o.after.any fun e => decide (e.on = j) && Region.binds .any e) = true → worksS B1 c1 B2 c2 B3 c3 j (a.eval (.tmp (D39 j))) W) : WorksOk B1 c1 B2 c2 B3 c3 Q a W 13 o := by
  have hop := op_at ho (·.op) (x := .call { callee := .value (.func 57), args := #[.const (.int .i64 2), .const (.int .i64 3)], argTypes := #[2, 2] }) (by kernel_rfl)
  have hgd := op_at ho (·.guard) (x := some (11, true)) (by kernel_rfl)
  have e11 : a.eval (.tmp 162) = .bool true := haft 11 (op_at ho (fun o => o.after.any fun e => decide (e.on = 11) && Region.binds .any e) (x := true) (by kernel_rfl))
  refine ⟨fun j b h => (by rw [hgd] at h; cases h; exact e11), ?_⟩
  exact specs_call (R := worksS B1 c1 B2 c2 B3 c3 13) (f := 57) (args := #[.int .i64 2, .int .i64 3]) (by simp [execOp, hop, go_sem]) ((rg_any 2 3 W).mono fun e w' h => ⟨_, h.1, rfl, h.2⟩)
theorem works_op14 (ho : reg18[14]? = some o) (hB : Ext V W) (haft : ∀ j, (o.after.any fun e => decide (e.on = j) && Region.binds .any e) = true → worksS B1 c1 B2 c2 B3 c3 j (a.eval (.tmp (D39 j))) W) : WorksOk B1 c1 B2 c2 B3 c3 Q a W 14 o := by
  have hop := op_at ho (·.op) (x := .binOp .eql 29 (.tmp 163) (.tmp 164) 29) (by kernel_rfl)
  have hgd := op_at ho (·.guard) (x := some (11, true)) (by kernel_rfl)
  have e12 : a.eval (.tmp 163) = .agg #[.int .i64 2, .int .i64 3] := haft 12 (op_at ho (fun o => o.after.any fun e => decide (e.on = 12) && Region.binds .any e) (x := true) (by kernel_rfl))
  have e13 : a.eval (.tmp 164) = .agg #[.int .i64 2, .int .i64 3] := haft 13 (op_at ho (fun o => o.after.any fun e => decide (e.on = 13) && Region.binds .any e) (x := true) (by kernel_rfl))
  have e11 : a.eval (.tmp 162) = .bool true := haft 11 (op_at ho (fun o => o.after.any fun e => decide (e.on = 11) && Region.binds .any e) (x := true) (by kernel_rfl))
  refine ⟨fun j b h => (by rw [hgd] at h; cases h; exact e11), ?_⟩
  exact specs_value (R := worksS B1 c1 B2 c2 B3 c3 14) (v := .bool true) (by simp [execOp, hop, go_sem, ev e12, ev e13]) rfl (Ext.refl W)
theorem works_op15 (ho : reg18[15]? = some o) (hB : Ext V W) (haft : ∀ j, (o.after.any fun e => decide (e.on = j) && Region.binds .any e) = true → worksS B1 c1 B2 c2 B3 c3 j (a.eval (.tmp (D39 j))) W) : WorksOk B1 c1 B2 c2 B3 c3 Q a W 15 o := by
  have hop := op_at ho (·.op) (x := .pick (.tmp 162) (.tmp 165) (.const (.bool false))) (by kernel_rfl)
  have hgd := op_at ho (·.guard) (x := none) (by kernel_rfl)
  have e11 : a.eval (.tmp 162) = .bool true := haft 11 (op_at ho (fun o => o.after.any fun e => decide (e.on = 11) && Region.binds .any e) (x := true) (by kernel_rfl))
  have e14 : a.eval (.tmp 165) = .bool true := haft 14 (op_at ho (fun o => o.after.any fun e => decide (e.on = 14) && Region.binds .any e) (x := true) (by kernel_rfl))
  refine ⟨fun j b h => (by rw [hgd] at h; cases h), ?_⟩
  exact specs_value (R := worksS B1 c1 B2 c2 B3 c3 15) (v := .bool true) (by simp [execOp, hop, go_sem, ev e11, ev e14]) rfl (Ext.refl W)
theorem works_op16 (ho : reg18[16]? = some o) (hB : Ext V W) (haft : ∀ j, (o.after.any fun e => decide (e.on = j) && Region.binds .any e) = true → worksS B1 c1 B2 c2 B3 c3 j (a.eval (.tmp (D39 j))) W) : WorksOk B1 c1 B2 c2 B3 c3 Q a W 16 o := by
  have hop := op_at ho (·.op) (x := .move (.tmp 166)) (by kernel_rfl)
  have hgd := op_at ho (·.guard) (x := none) (by kernel_rfl)
  have e15 : a.eval (.tmp 166) = .bool true := haft 15 (op_at ho (fun o => o.after.any fun e => decide (e.on = 15) && Region.binds .any e) (x := true) (by kernel_rfl))
  refine ⟨fun j b h => (by rw [hgd] at h; cases h), ?_⟩
  exact specs_value (R := worksS B1 c1 B2 c2 B3 c3 16) (v := .bool true) (by simp [execOp, hop, go_sem, ev e15]) rfl (Ext.refl W)
theorem works_op17 (o13 : a.eval (.tmp 13) = .int .i64 323) (ho : reg18[17]? = some o) (hB : Ext V W) (haft : ∀ j, (o.after.any fun e => decide (e.on = j) && Region.binds .any e) = true → worksS B1 c1 B2 c2 B3 c3 j (a.eval (.tmp (D39 j))) W) : WorksOk B1 c1 B2 c2 B3 c3 Q a W 17 o := by
  have hop := op_at ho (·.op) (x := .move (.tmp 13)) (by kernel_rfl)
  have hgd := op_at ho (·.guard) (x := some (16, true)) (by kernel_rfl)
  have e16 : a.eval (.tmp 167) = .bool true := haft 16 (op_at ho (fun o => o.after.any fun e => decide (e.on = 16) && Region.binds .any e) (x := true) (by kernel_rfl))
  refine ⟨fun j b h => (by rw [hgd] at h; cases h; exact e16), ?_⟩
  exact specs_value (R := worksS B1 c1 B2 c2 B3 c3 17) (v := .int .i64 323) (by simp [execOp, hop, go_sem, ev o13]) rfl (Ext.refl W)
theorem works_op18 (ho : reg18[18]? = some o) (hB : Ext V W) (haft : ∀ j, (o.after.any fun e => decide (e.on = j) && Region.binds .any e) = true → worksS B1 c1 B2 c2 B3 c3 j (a.eval (.tmp (D39 j))) W) : WorksOk B1 c1 B2 c2 B3 c3 Q a W 18 o := by
  have hop := op_at ho (·.op) (x := .binOp .eql 2 (.tmp 168) (.const (.int .i64 323)) 2) (by kernel_rfl)
  have hgd := op_at ho (·.guard) (x := some (16, true)) (by kernel_rfl)
  have e17 : a.eval (.tmp 168) = .int .i64 323 := haft 17 (op_at ho (fun o => o.after.any fun e => decide (e.on = 17) && Region.binds .any e) (x := true) (by kernel_rfl))
  have e16 : a.eval (.tmp 167) = .bool true := haft 16 (op_at ho (fun o => o.after.any fun e => decide (e.on = 16) && Region.binds .any e) (x := true) (by kernel_rfl))
  refine ⟨fun j b h => (by rw [hgd] at h; cases h; exact e16), ?_⟩
  exact specs_value (R := worksS B1 c1 B2 c2 B3 c3 18) (v := .bool true) (by simp [execOp, hop, go_sem, ev e17]) rfl (Ext.refl W)
theorem works_op19 (ho : reg18[19]? = some o) (hB : Ext V W) (haft : ∀ j, (o.after.any fun e => decide (e.on = j) && Region.binds .any e) = true → worksS B1 c1 B2 c2 B3 c3 j (a.eval (.tmp (D39 j))) W) : WorksOk B1 c1 B2 c2 B3 c3 Q a W 19 o := by
  have hop := op_at ho (·.op) (x := .pick (.tmp 167) (.tmp 169) (.const (.bool false))) (by kernel_rfl)
  have hgd := op_at ho (·.guard) (x := none) (by kernel_rfl)
  have e16 : a.eval (.tmp 167) = .bool true := haft 16 (op_at ho (fun o => o.after.any fun e => decide (e.on = 16) && Region.binds .any e) (x := true) (by kernel_rfl))
  have e18 : a.eval (.tmp 169) = .bool true := haft 18 (op_at ho (fun o => o.after.any fun e => decide (e.on = 18) && Region.binds .any e) (x := true) (by kernel_rfl))
  refine ⟨fun j b h => (by rw [hgd] at h; cases h), ?_⟩
  exact specs_value (R := worksS B1 c1 B2 c2 B3 c3 19) (v := .bool true) (by simp [execOp, hop, go_sem, ev e16, ev e18]) rfl (Ext.refl W)
theorem works_op20 (ho : reg18[20]? = some o) (hB : Ext V W) (haft : ∀ j, (o.after.any fun e => decide (e.on = j) && Region.binds .any e) = true → worksS B1 c1 B2 c2 B3 c3 j (a.eval (.tmp (D39 j))) W) : WorksOk B1 c1 B2 c2 B3 c3 Q a W 20 o := by
  have hop := op_at ho (·.op) (x := .move (.tmp 170)) (by kernel_rfl)
  have hgd := op_at ho (·.guard) (x := none) (by kernel_rfl)
  have e19 : a.eval (.tmp 170) = .bool true := haft 19 (op_at ho (fun o => o.after.any fun e => decide (e.on = 19) && Region.binds .any e) (x := true) (by kernel_rfl))
  refine ⟨fun j b h => (by rw [hgd] at h; cases h), ?_⟩
  exact specs_value (R := worksS B1 c1 B2 c2 B3 c3 20) (v := .bool true) (by simp [execOp, hop, go_sem, ev e19]) rfl (Ext.refl W)
theorem works_op21 (o17 : a.eval (.tmp 17) = .slice B1 4 c1) (ho : reg18[21]? = some o) (hB : Ext V W) (haft : ∀ j, (o.after.any fun e => decide (e.on = j) && Region.binds .any e) = true → worksS B1 c1 B2 c2 B3 c3 j (a.eval (.tmp (D39 j))) W) : WorksOk B1 c1 B2 c2 B3 c3 Q a W 21 o := by
  have hop := op_at ho (·.op) (x := .move (.tmp 17)) (by kernel_rfl)
  have hgd := op_at ho (·.guard) (x := some (20, true)) (by kernel_rfl)
  have e20 : a.eval (.tmp 171) = .bool true := haft 20 (op_at ho (fun o => o.after.any fun e => decide (e.on = 20) && Region.binds .any e) (x := true) (by kernel_rfl))
  refine ⟨fun j b h => (by rw [hgd] at h; cases h; exact e20), ?_⟩
  exact specs_value (R := worksS B1 c1 B2 c2 B3 c3 21) (v := .slice B1 4 c1) (by simp [execOp, hop, go_sem, ev o17]) rfl (Ext.refl W)
theorem works_op22 (ho : reg18[22]? = some o) (hB : Ext V W) (haft : ∀ j, (o.after.any fun e => decide (e.on = j) && Region.binds .any e) = true → worksS B1 c1 B2 c2 B3 c3 j (a.eval (.tmp (D39 j))) W) : WorksOk B1 c1 B2 c2 B3 c3 Q a W 22 o := by
  have hop := op_at ho (·.op) (x := .buildSlice 42 4 #[(0, .const (.int .i64 (-1))), (1, .const (.int .i64 0)), (2, .const (.int .i64 1)), (3, .const (.int .i64 2))]) (by kernel_rfl)
  have hgd := op_at ho (·.guard) (x := some (20, true)) (by kernel_rfl)
  have e20 : a.eval (.tmp 171) = .bool true := haft 20 (op_at ho (fun o => o.after.any fun e => decide (e.on = 20) && Region.binds .any e) (x := true) (by kernel_rfl))
  refine ⟨fun j b h => (by rw [hgd] at h; cases h; exact e20), ?_⟩
  have hx := held_ints [-1, 0, 1, 2] (row_last W (.cells #[.int .i64 (-1), .int .i64 0, .int .i64 1, .int .i64 2] 3) _ rfl) rfl
  exact specs_value (R := worksS B1 c1 B2 c2 B3 c3 22) (v := .slice (some ⟨W.heap.size, 0, none⟩) 4 4) (W' := W.alloc (.cells #[.int .i64 (-1), .int .i64 0, .int .i64 1, .int .i64 2] 3)) (by simp [execOp, hop, go_sem]) ⟨_, rfl, hx⟩ ((Below.refl _ W).alloc (Nat.le_refl _) _)
theorem works_op23 (hw : Held V V.heap.size 1 encI B1 [-1, 0, 1, 2]) (ho : reg18[23]? = some o) (hB : Ext V W) (haft : ∀ j, (o.after.any fun e => decide (e.on = j) && Region.binds .any e) = true → worksS B1 c1 B2 c2 B3 c3 j (a.eval (.tmp (D39 j))) W) : WorksOk B1 c1 B2 c2 B3 c3 Q a W 23 o := by
  have hop := op_at ho (·.op) (x := .call { callee := .value (.func 31), args := #[.tmp 172, .tmp 173], argTypes := #[42, 42] }) (by kernel_rfl)
  have hgd := op_at ho (·.guard) (x := some (20, true)) (by kernel_rfl)
  have e21 : a.eval (.tmp 172) = .slice B1 4 c1 := haft 21 (op_at ho (fun o => o.after.any fun e => decide (e.on = 21) && Region.binds .any e) (x := true) (by kernel_rfl))
  obtain ⟨l22, e22, h22⟩ := haft 22 (op_at ho (fun o => o.after.any fun e => decide (e.on = 22) && Region.binds .any e) (x := true) (by kernel_rfl))
  rw [show D39 22 = 173 from rfl] at e22
  have e20 : a.eval (.tmp 171) = .bool true := haft 20 (op_at ho (fun o => o.after.any fun e => decide (e.on = 20) && Region.binds .any e) (x := true) (by kernel_rfl))
  refine ⟨fun j b h => (by rw [hgd] at h; cases h; exact e20), ?_⟩
  have hc := ints_any B1 (some ⟨l22, 0, none⟩) 4 c1 4 4 [-1, 0, 1, 2] [-1, 0, 1, 2] W rfl rfl (by omega) (by omega) (hw.ext hB) h22
  exact specs_call (R := worksS B1 c1 B2 c2 B3 c3 23) (f := 31) (args := #[.slice B1 4 c1, .slice (some ⟨l22, 0, none⟩) 4 4]) (by simp [execOp, hop, go_sem, ev e21, ev e22]) (hc.mono fun e w' h => ⟨_, h.1, by simp [worksS], h.2⟩)
theorem works_op24 (ho : reg18[24]? = some o) (hB : Ext V W) (haft : ∀ j, (o.after.any fun e => decide (e.on = j) && Region.binds .any e) = true → worksS B1 c1 B2 c2 B3 c3 j (a.eval (.tmp (D39 j))) W) : WorksOk B1 c1 B2 c2 B3 c3 Q a W 24 o := by
  have hop := op_at ho (·.op) (x := .pick (.tmp 171) (.tmp 174) (.const (.bool false))) (by kernel_rfl)
  have hgd := op_at ho (·.guard) (x := none) (by kernel_rfl)
  have e20 : a.eval (.tmp 171) = .bool true := haft 20 (op_at ho (fun o => o.after.any fun e => decide (e.on = 20) && Region.binds .any e) (x := true) (by kernel_rfl))
  have e23 : a.eval (.tmp 174) = .bool true := haft 23 (op_at ho (fun o => o.after.any fun e => decide (e.on = 23) && Region.binds .any e) (x := true) (by kernel_rfl))
  refine ⟨fun j b h => (by rw [hgd] at h; cases h), ?_⟩
  exact specs_value (R := worksS B1 c1 B2 c2 B3 c3 24) (v := .bool true) (by simp [execOp, hop, go_sem, ev e20, ev e23]) rfl (Ext.refl W)
theorem works_op25 (ho : reg18[25]? = some o) (hB : Ext V W) (haft : ∀ j, (o.after.any fun e => decide (e.on = j) && Region.binds .any e) = true → worksS B1 c1 B2 c2 B3 c3 j (a.eval (.tmp (D39 j))) W) : WorksOk B1 c1 B2 c2 B3 c3 Q a W 25 o := by
  have hop := op_at ho (·.op) (x := .move (.tmp 175)) (by kernel_rfl)
  have hgd := op_at ho (·.guard) (x := none) (by kernel_rfl)
  have e24 : a.eval (.tmp 175) = .bool true := haft 24 (op_at ho (fun o => o.after.any fun e => decide (e.on = 24) && Region.binds .any e) (x := true) (by kernel_rfl))
  refine ⟨fun j b h => (by rw [hgd] at h; cases h), ?_⟩
  exact specs_value (R := worksS B1 c1 B2 c2 B3 c3 25) (v := .bool true) (by simp [execOp, hop, go_sem, ev e24]) rfl (Ext.refl W)
theorem works_op26 (o21 : a.eval (.tmp 21) = .slice B2 2 c2) (ho : reg18[26]? = some o) (hB : Ext V W) (haft : ∀ j, (o.after.any fun e => decide (e.on = j) && Region.binds .any e) = true → worksS B1 c1 B2 c2 B3 c3 j (a.eval (.tmp (D39 j))) W) : WorksOk B1 c1 B2 c2 B3 c3 Q a W 26 o := by
  have hop := op_at ho (·.op) (x := .move (.tmp 21)) (by kernel_rfl)
  have hgd := op_at ho (·.guard) (x := some (25, true)) (by kernel_rfl)
  have e25 : a.eval (.tmp 176) = .bool true := haft 25 (op_at ho (fun o => o.after.any fun e => decide (e.on = 25) && Region.binds .any e) (x := true) (by kernel_rfl))
  refine ⟨fun j b h => (by rw [hgd] at h; cases h; exact e25), ?_⟩
  exact specs_value (R := worksS B1 c1 B2 c2 B3 c3 26) (v := .slice B2 2 c2) (by simp [execOp, hop, go_sem, ev o21]) rfl (Ext.refl W)
theorem works_op27 (ho : reg18[27]? = some o) (hB : Ext V W) (haft : ∀ j, (o.after.any fun e => decide (e.on = j) && Region.binds .any e) = true → worksS B1 c1 B2 c2 B3 c3 j (a.eval (.tmp (D39 j))) W) : WorksOk B1 c1 B2 c2 B3 c3 Q a W 27 o := by
  have hop := op_at ho (·.op) (x := .buildSlice 42 2 #[(0, .const (.int .i64 0)), (1, .const (.int .i64 1))]) (by kernel_rfl)
  have hgd := op_at ho (·.guard) (x := some (25, true)) (by kernel_rfl)
  have e25 : a.eval (.tmp 176) = .bool true := haft 25 (op_at ho (fun o => o.after.any fun e => decide (e.on = 25) && Region.binds .any e) (x := true) (by kernel_rfl))
  refine ⟨fun j b h => (by rw [hgd] at h; cases h; exact e25), ?_⟩
  have hx := held_ints [0, 1] (row_last W (.cells #[.int .i64 0, .int .i64 1] 3) _ rfl) rfl
  exact specs_value (R := worksS B1 c1 B2 c2 B3 c3 27) (v := .slice (some ⟨W.heap.size, 0, none⟩) 2 2) (W' := W.alloc (.cells #[.int .i64 0, .int .i64 1] 3)) (by simp [execOp, hop, go_sem]) ⟨_, rfl, hx⟩ ((Below.refl _ W).alloc (Nat.le_refl _) _)
theorem works_op28 (hx : Held V V.heap.size 1 encI B2 [0, 1]) (ho : reg18[28]? = some o) (hB : Ext V W) (haft : ∀ j, (o.after.any fun e => decide (e.on = j) && Region.binds .any e) = true → worksS B1 c1 B2 c2 B3 c3 j (a.eval (.tmp (D39 j))) W) : WorksOk B1 c1 B2 c2 B3 c3 Q a W 28 o := by
  have hop := op_at ho (·.op) (x := .call { callee := .value (.func 31), args := #[.tmp 177, .tmp 178], argTypes := #[42, 42] }) (by kernel_rfl)
  have hgd := op_at ho (·.guard) (x := some (25, true)) (by kernel_rfl)
  have e26 : a.eval (.tmp 177) = .slice B2 2 c2 := haft 26 (op_at ho (fun o => o.after.any fun e => decide (e.on = 26) && Region.binds .any e) (x := true) (by kernel_rfl))
  obtain ⟨l27, e27, h27⟩ := haft 27 (op_at ho (fun o => o.after.any fun e => decide (e.on = 27) && Region.binds .any e) (x := true) (by kernel_rfl))
  rw [show D39 27 = 178 from rfl] at e27
  have e25 : a.eval (.tmp 176) = .bool true := haft 25 (op_at ho (fun o => o.after.any fun e => decide (e.on = 25) && Region.binds .any e) (x := true) (by kernel_rfl))
  refine ⟨fun j b h => (by rw [hgd] at h; cases h; exact e25), ?_⟩
  have hc := ints_any B2 (some ⟨l27, 0, none⟩) 2 c2 2 2 [0, 1] [0, 1] W rfl rfl (by omega) (by omega) (hx.ext hB) h27
  exact specs_call (R := worksS B1 c1 B2 c2 B3 c3 28) (f := 31) (args := #[.slice B2 2 c2, .slice (some ⟨l27, 0, none⟩) 2 2]) (by simp [execOp, hop, go_sem, ev e26, ev e27]) (hc.mono fun e w' h => ⟨_, h.1, by simp [worksS], h.2⟩)
theorem works_op29 (ho : reg18[29]? = some o) (hB : Ext V W) (haft : ∀ j, (o.after.any fun e => decide (e.on = j) && Region.binds .any e) = true → worksS B1 c1 B2 c2 B3 c3 j (a.eval (.tmp (D39 j))) W) : WorksOk B1 c1 B2 c2 B3 c3 Q a W 29 o := by
  have hop := op_at ho (·.op) (x := .pick (.tmp 176) (.tmp 179) (.const (.bool false))) (by kernel_rfl)
  have hgd := op_at ho (·.guard) (x := none) (by kernel_rfl)
  have e25 : a.eval (.tmp 176) = .bool true := haft 25 (op_at ho (fun o => o.after.any fun e => decide (e.on = 25) && Region.binds .any e) (x := true) (by kernel_rfl))
  have e28 : a.eval (.tmp 179) = .bool true := haft 28 (op_at ho (fun o => o.after.any fun e => decide (e.on = 28) && Region.binds .any e) (x := true) (by kernel_rfl))
  refine ⟨fun j b h => (by rw [hgd] at h; cases h), ?_⟩
  exact specs_value (R := worksS B1 c1 B2 c2 B3 c3 29) (v := .bool true) (by simp [execOp, hop, go_sem, ev e25, ev e28]) rfl (Ext.refl W)
theorem works_op30 (ho : reg18[30]? = some o) (hB : Ext V W) (haft : ∀ j, (o.after.any fun e => decide (e.on = j) && Region.binds .any e) = true → worksS B1 c1 B2 c2 B3 c3 j (a.eval (.tmp (D39 j))) W) : WorksOk B1 c1 B2 c2 B3 c3 Q a W 30 o := by
  have hop := op_at ho (·.op) (x := .move (.tmp 180)) (by kernel_rfl)
  have hgd := op_at ho (·.guard) (x := none) (by kernel_rfl)
  have e29 : a.eval (.tmp 180) = .bool true := haft 29 (op_at ho (fun o => o.after.any fun e => decide (e.on = 29) && Region.binds .any e) (x := true) (by kernel_rfl))
  refine ⟨fun j b h => (by rw [hgd] at h; cases h), ?_⟩
  exact specs_value (R := worksS B1 c1 B2 c2 B3 c3 30) (v := .bool true) (by simp [execOp, hop, go_sem, ev e29]) rfl (Ext.refl W)
theorem works_op31 (o25 : a.eval (.tmp 25) = .slice B3 4 c3) (ho : reg18[31]? = some o) (hB : Ext V W) (haft : ∀ j, (o.after.any fun e => decide (e.on = j) && Region.binds .any e) = true → worksS B1 c1 B2 c2 B3 c3 j (a.eval (.tmp (D39 j))) W) : WorksOk B1 c1 B2 c2 B3 c3 Q a W 31 o := by
  have hop := op_at ho (·.op) (x := .move (.tmp 25)) (by kernel_rfl)
  have hgd := op_at ho (·.guard) (x := some (30, true)) (by kernel_rfl)
  have e30 : a.eval (.tmp 181) = .bool true := haft 30 (op_at ho (fun o => o.after.any fun e => decide (e.on = 30) && Region.binds .any e) (x := true) (by kernel_rfl))
  refine ⟨fun j b h => (by rw [hgd] at h; cases h; exact e30), ?_⟩
  exact specs_value (R := worksS B1 c1 B2 c2 B3 c3 31) (v := .slice B3 4 c3) (by simp [execOp, hop, go_sem, ev o25]) rfl (Ext.refl W)
theorem works_op32 (ho : reg18[32]? = some o) (hB : Ext V W) (haft : ∀ j, (o.after.any fun e => decide (e.on = j) && Region.binds .any e) = true → worksS B1 c1 B2 c2 B3 c3 j (a.eval (.tmp (D39 j))) W) : WorksOk B1 c1 B2 c2 B3 c3 Q a W 32 o := by
  have hop := op_at ho (·.op) (x := .buildSlice 42 1 #[(0, .const (.int .i64 (-2)))]) (by kernel_rfl)
  have hgd := op_at ho (·.guard) (x := some (30, true)) (by kernel_rfl)
  have e30 : a.eval (.tmp 181) = .bool true := haft 30 (op_at ho (fun o => o.after.any fun e => decide (e.on = 30) && Region.binds .any e) (x := true) (by kernel_rfl))
  refine ⟨fun j b h => (by rw [hgd] at h; cases h; exact e30), ?_⟩
  have hx := held_ints [-2] (row_last W (.cells #[.int .i64 (-2)] 3) _ rfl) rfl
  exact specs_value (R := worksS B1 c1 B2 c2 B3 c3 32) (v := .slice (some ⟨W.heap.size, 0, none⟩) 1 1) (W' := W.alloc (.cells #[.int .i64 (-2)] 3)) (by simp [execOp, hop, go_sem]) ⟨_, rfl, hx⟩ ((Below.refl _ W).alloc (Nat.le_refl _) _)
theorem works_op33 (ho : reg18[33]? = some o) (hB : Ext V W) (haft : ∀ j, (o.after.any fun e => decide (e.on = j) && Region.binds .any e) = true → worksS B1 c1 B2 c2 B3 c3 j (a.eval (.tmp (D39 j))) W) : WorksOk B1 c1 B2 c2 B3 c3 Q a W 33 o := by
  have hop := op_at ho (·.op) (x := .buildSlice 42 1 #[(0, .const (.int .i64 (-1)))]) (by kernel_rfl)
  have hgd := op_at ho (·.guard) (x := some (30, true)) (by kernel_rfl)
  have e30 : a.eval (.tmp 181) = .bool true := haft 30 (op_at ho (fun o => o.after.any fun e => decide (e.on = 30) && Region.binds .any e) (x := true) (by kernel_rfl))
  refine ⟨fun j b h => (by rw [hgd] at h; cases h; exact e30), ?_⟩
  have hx := held_ints [-1] (row_last W (.cells #[.int .i64 (-1)] 3) _ rfl) rfl
  exact specs_value (R := worksS B1 c1 B2 c2 B3 c3 33) (v := .slice (some ⟨W.heap.size, 0, none⟩) 1 1) (W' := W.alloc (.cells #[.int .i64 (-1)] 3)) (by simp [execOp, hop, go_sem]) ⟨_, rfl, hx⟩ ((Below.refl _ W).alloc (Nat.le_refl _) _)
theorem works_op34 (ho : reg18[34]? = some o) (hB : Ext V W) (haft : ∀ j, (o.after.any fun e => decide (e.on = j) && Region.binds .any e) = true → worksS B1 c1 B2 c2 B3 c3 j (a.eval (.tmp (D39 j))) W) : WorksOk B1 c1 B2 c2 B3 c3 Q a W 34 o := by
  have hop := op_at ho (·.op) (x := .buildSlice 42 2 #[(0, .const (.int .i64 0)), (1, .const (.int .i64 1))]) (by kernel_rfl)
  have hgd := op_at ho (·.guard) (x := some (30, true)) (by kernel_rfl)
  have e30 : a.eval (.tmp 181) = .bool true := haft 30 (op_at ho (fun o => o.after.any fun e => decide (e.on = 30) && Region.binds .any e) (x := true) (by kernel_rfl))
  refine ⟨fun j b h => (by rw [hgd] at h; cases h; exact e30), ?_⟩
  have hx := held_ints [0, 1] (row_last W (.cells #[.int .i64 0, .int .i64 1] 3) _ rfl) rfl
  exact specs_value (R := worksS B1 c1 B2 c2 B3 c3 34) (v := .slice (some ⟨W.heap.size, 0, none⟩) 2 2) (W' := W.alloc (.cells #[.int .i64 0, .int .i64 1] 3)) (by simp [execOp, hop, go_sem]) ⟨_, rfl, hx⟩ ((Below.refl _ W).alloc (Nat.le_refl _) _)
theorem works_op35 (ho : reg18[35]? = some o) (hB : Ext V W) (haft : ∀ j, (o.after.any fun e => decide (e.on = j) && Region.binds .any e) = true → worksS B1 c1 B2 c2 B3 c3 j (a.eval (.tmp (D39 j))) W) : WorksOk B1 c1 B2 c2 B3 c3 Q a W 35 o := by
  have hop := op_at ho (·.op) (x := .buildSlice 42 1 #[(0, .const (.int .i64 2))]) (by kernel_rfl)
  have hgd := op_at ho (·.guard) (x := some (30, true)) (by kernel_rfl)
  have e30 : a.eval (.tmp 181) = .bool true := haft 30 (op_at ho (fun o => o.after.any fun e => decide (e.on = 30) && Region.binds .any e) (x := true) (by kernel_rfl))
  refine ⟨fun j b h => (by rw [hgd] at h; cases h; exact e30), ?_⟩
  have hx := held_ints [2] (row_last W (.cells #[.int .i64 2] 3) _ rfl) rfl
  exact specs_value (R := worksS B1 c1 B2 c2 B3 c3 35) (v := .slice (some ⟨W.heap.size, 0, none⟩) 1 1) (W' := W.alloc (.cells #[.int .i64 2] 3)) (by simp [execOp, hop, go_sem]) ⟨_, rfl, hx⟩ ((Below.refl _ W).alloc (Nat.le_refl _) _)
theorem works_op36 (ho : reg18[36]? = some o) (hB : Ext V W) (haft : ∀ j, (o.after.any fun e => decide (e.on = j) && Region.binds .any e) = true → worksS B1 c1 B2 c2 B3 c3 j (a.eval (.tmp (D39 j))) W) : WorksOk B1 c1 B2 c2 B3 c3 Q a W 36 o := by
  have hop := op_at ho (·.op) (x := .buildSlice 48 4 #[(0, .tmp 183), (1, .tmp 184), (2, .tmp 185), (3, .tmp 186)]) (by kernel_rfl)
  have hgd := op_at ho (·.guard) (x := some (30, true)) (by kernel_rfl)
  obtain ⟨l32, e32, h32⟩ := haft 32 (op_at ho (fun o => o.after.any fun e => decide (e.on = 32) && Region.binds .any e) (x := true) (by kernel_rfl))
  rw [show D39 32 = 183 from rfl] at e32
  obtain ⟨l33, e33, h33⟩ := haft 33 (op_at ho (fun o => o.after.any fun e => decide (e.on = 33) && Region.binds .any e) (x := true) (by kernel_rfl))
  rw [show D39 33 = 184 from rfl] at e33
  obtain ⟨l34, e34, h34⟩ := haft 34 (op_at ho (fun o => o.after.any fun e => decide (e.on = 34) && Region.binds .any e) (x := true) (by kernel_rfl))
  rw [show D39 34 = 185 from rfl] at e34
  obtain ⟨l35, e35, h35⟩ := haft 35 (op_at ho (fun o => o.after.any fun e => decide (e.on = 35) && Region.binds .any e) (x := true) (by kernel_rfl))
  rw [show D39 35 = 186 from rfl] at e35
  have e30 : a.eval (.tmp 181) = .bool true := haft 30 (op_at ho (fun o => o.after.any fun e => decide (e.on = 30) && Region.binds .any e) (x := true) (by kernel_rfl))
  refine ⟨fun j b h => (by rw [hgd] at h; cases h; exact e30), ?_⟩
  have hb0 : Ext W (W.alloc (.cells #[.slice (some ⟨l32, 0, none⟩) 1 1, .slice (some ⟨l33, 0, none⟩) 1 1, .slice (some ⟨l34, 0, none⟩) 2 2, .slice (some ⟨l35, 0, none⟩) 1 1] 42)) := (Below.refl _ W).alloc (Nat.le_refl _) _
  have hr := row_last W (.cells #[.slice (some ⟨l32, 0, none⟩) 1 1, .slice (some ⟨l33, 0, none⟩) 1 1, .slice (some ⟨l34, 0, none⟩) 2 2, .slice (some ⟨l35, 0, none⟩) 1 1] 42) _ rfl
  exact specs_value (R := worksS B1 c1 B2 c2 B3 c3 36) (v := .slice (some ⟨W.heap.size, 0, none⟩) 4 4) (W' := W.alloc (.cells #[.slice (some ⟨l32, 0, none⟩) 1 1, .slice (some ⟨l33, 0, none⟩) 1 1, .slice (some ⟨l34, 0, none⟩) 2 2, .slice (some ⟨l35, 0, none⟩) 1 1] 42)) (by simp [execOp, hop, go_sem, ev e32, ev e33, ev e34, ev e35]) ⟨_, rfl, rows4 hr (h32.ext hb0) (h33.ext hb0) (h34.ext hb0) (h35.ext hb0)⟩ hb0
theorem works_op37 (hg : HeldRows V V.heap.size B3 [[-2], [-1], [0, 1], [2]]) (ho : reg18[37]? = some o) (hB : Ext V W) (haft : ∀ j, (o.after.any fun e => decide (e.on = j) && Region.binds .any e) = true → worksS B1 c1 B2 c2 B3 c3 j (a.eval (.tmp (D39 j))) W) : WorksOk B1 c1 B2 c2 B3 c3 Q a W 37 o := by
  have hop := op_at ho (·.op) (x := .call { callee := .value (.func 38), args := #[.tmp 182, .tmp 187], argTypes := #[48, 48] }) (by kernel_rfl)
  have hgd := op_at ho (·.guard) (x := some (30, true)) (by kernel_rfl)
  have e31 : a.eval (.tmp 182) = .slice B3 4 c3 := haft 31 (op_at ho (fun o => o.after.any fun e => decide (e.on = 31) && Region.binds .any e) (x := true) (by kernel_rfl))
  obtain ⟨l36, e36, h36⟩ := haft 36 (op_at ho (fun o => o.after.any fun e => decide (e.on = 36) && Region.binds .any e) (x := true) (by kernel_rfl))
  rw [show D39 36 = 187 from rfl] at e36
  have e30 : a.eval (.tmp 181) = .bool true := haft 30 (op_at ho (fun o => o.after.any fun e => decide (e.on = 30) && Region.binds .any e) (x := true) (by kernel_rfl))
  refine ⟨fun j b h => (by rw [hgd] at h; cases h; exact e30), ?_⟩
  have hc := lists_any B3 (some ⟨l36, 0, none⟩) 4 c3 4 4 [[-2], [-1], [0, 1], [2]] [[-2], [-1], [0, 1], [2]] W rfl rfl (by omega) (by omega) (hg.ext hB) h36
  exact specs_call (R := worksS B1 c1 B2 c2 B3 c3 37) (f := 38) (args := #[.slice B3 4 c3, .slice (some ⟨l36, 0, none⟩) 4 4]) (by simp [execOp, hop, go_sem, ev e31, ev e36]) (hc.mono fun e w' h => ⟨_, h.1, by simp [worksS], h.2⟩)
theorem works_op38 (ho : reg18[38]? = some o) (hB : Ext V W) (haft : ∀ j, (o.after.any fun e => decide (e.on = j) && Region.binds .any e) = true → worksS B1 c1 B2 c2 B3 c3 j (a.eval (.tmp (D39 j))) W) : WorksOk B1 c1 B2 c2 B3 c3 Q a W 38 o := by
  have hop := op_at ho (·.op) (x := .pick (.tmp 181) (.tmp 188) (.const (.bool false))) (by kernel_rfl)
  have hgd := op_at ho (·.guard) (x := none) (by kernel_rfl)
  have e30 : a.eval (.tmp 181) = .bool true := haft 30 (op_at ho (fun o => o.after.any fun e => decide (e.on = 30) && Region.binds .any e) (x := true) (by kernel_rfl))
  have e37 : a.eval (.tmp 188) = .bool true := haft 37 (op_at ho (fun o => o.after.any fun e => decide (e.on = 37) && Region.binds .any e) (x := true) (by kernel_rfl))
  refine ⟨fun j b h => (by rw [hgd] at h; cases h), ?_⟩
  exact specs_value (R := worksS B1 c1 B2 c2 B3 c3 38) (v := .bool true) (by simp [execOp, hop, go_sem, ev e30, ev e37]) rfl (Ext.refl W)
theorem works_op39 (ho : reg18[39]? = some o) (hB : Ext V W) (haft : ∀ j, (o.after.any fun e => decide (e.on = j) && Region.binds .any e) = true → worksS B1 c1 B2 c2 B3 c3 j (a.eval (.tmp (D39 j))) W) : WorksOk B1 c1 B2 c2 B3 c3 Q a W 39 o := by
  have hop := op_at ho (·.op) (x := .assign (.tmp 189)) (by kernel_rfl)
  have hgd := op_at ho (·.guard) (x := none) (by kernel_rfl)
  have e38 : a.eval (.tmp 189) = .bool true := haft 38 (op_at ho (fun o => o.after.any fun e => decide (e.on = 38) && Region.binds .any e) (x := true) (by kernel_rfl))
  refine ⟨fun j b h => (by rw [hgd] at h; cases h), ?_⟩
  exact specs_value (R := worksS B1 c1 B2 c2 B3 c3 39) (v := .bool true) (by simp [execOp, hop, go_sem, ev e38]) rfl (Ext.refl W)
end
end Go.Proofs.Ytgdpgdnhhjclcaa

/- Works. -/
namespace Go.Proofs.Ytgdpgdnhhjclcaa
open Go.RowKit Go.Shelf

theorem ex_cells {W : World} {p : Nat} {A A' : Option Addr} {k : Nat} {ds : List (Int × Int × Int)} (h : ExAt W p A A' k ds) :
    W.cell? ⟨p, 0, none⟩ = some (.int .i64 100) ∧ W.cell? ⟨p, 1, none⟩ = some (.slice A 3 3) ∧ W.cell? ⟨p, 2, none⟩ = some (.slice A' k k) :=
  ⟨cell_of_row _ _ _ _ _ _ h.row, cell_of_row _ _ _ _ _ _ h.row, cell_of_row _ _ _ _ _ _ h.row⟩

set_option maxRecDepth 100000 in
set_option maxHeartbeats 4000000 in
theorem works_any (w : World) : Calls Try.prog 16 #[] w fun e w' => e = .returned (.bool true) ∧ Ext w w' := by
  go_enter Try.func16, Try.ntmps16
  go_wp2_with fail
  refine (bath_any _).mono ?_
  rintro e w1 ⟨hb1, g1, g1', rfl, hI1⟩
  go_wp2_with fail
  refine (few_any _).mono ?_
  rintro e w2 ⟨hb2, g2, g2', rfl, hI2⟩
  go_upto_region 2 with fail
  obtain ⟨W0, hW, x1, x2, eW⟩ : ∃ W, ((w2.alloc (.cells #[.int .i64 100, .slice (some ⟨g1, 0, none⟩) 3 3, .slice (some ⟨g1', 0, none⟩) 4 4] 25)).alloc (.cells #[.int .i64 100, .slice (some ⟨g2, 0, none⟩) 3 3, .slice (some ⟨g2', 0, none⟩) 2 2] 25)) = W ∧
      ExAt W w2.heap.size (some ⟨g1, 0, none⟩) (some ⟨g1', 0, none⟩) 4 exB ∧ ExAt W (w2.heap.size + 1) (some ⟨g2, 0, none⟩) (some ⟨g2', 0, none⟩) 2 exC ∧ Ext w W := by
    have e2 : Ext w2 ((w2.alloc (.cells #[.int .i64 100, .slice (some ⟨g1, 0, none⟩) 3 3, .slice (some ⟨g1', 0, none⟩) 4 4] 25)).alloc (.cells #[.int .i64 100, .slice (some ⟨g2, 0, none⟩) 3 3, .slice (some ⟨g2', 0, none⟩) 2 2] 25)) :=
      ((Below.refl _ w2).alloc (Nat.le_refl _) _).alloc (by simp) _
    refine ⟨_, rfl, ⟨row_alloc _ _ _ _ (row_last _ _ _ rfl), ?_⟩, ⟨row_last _ _ _ (by simp), ?_⟩, ?_⟩
    · exact (hI1.kept (Ext.trans hb2 e2) (Nat.le_refl _)).wider (Ext.trans hb2 e2).size
    · exact (hI2.kept e2 (Nat.le_refl _)).wider e2.size
    · exact Ext.trans hb1 (Ext.trans hb2 e2)
  rw [hW]
  clear hW hI1 hI2 hb1 hb2
  generalize w2.heap.size + 1 = p2 at x2 ⊢
  generalize w2.heap.size = p1 at x1 ⊢
  obtain ⟨q0, q1, q2⟩ := ex_cells x1
  have c0 := exc_size x1.bath
  go_upto_region 3 with (go_at_call 17; refine c0.mono ?_; rintro e V1 ⟨rfl, eV⟩)
  clear q0 q1 q2 c0
  replace x1 := x1.ext eV
  replace x2 := x2.ext eV
  replace eW := eW.trans eV
  clear eV
  obtain ⟨W1, hW, r3, eV⟩ : ∃ W, V1.alloc (.cells #[.int .i64 300, .int .i64 444] 29) = W ∧ W.heap[V1.heap.size]? = some (.cells #[.int .i64 300, .int .i64 444] 29 (0, 0)) ∧ Ext V1 W := ⟨_, rfl, row_last _ _ _ rfl, (Below.refl _ V1).alloc (Nat.le_refl _) _⟩
  rw [hW]
  replace x1 := x1.ext eV
  replace x2 := x2.ext eV
  replace eW := eW.trans eV
  clear hW eV
  generalize V1.heap.size = p3 at r3 ⊢
  obtain ⟨q0, q1, q2⟩ := ex_cells x1
  have c0 := exc_touch 1 2 1 ex_touch x1.bath
  go_upto_region 4 with (go_at_call 21; refine c0.mono ?_; rintro e V2 ⟨rfl, eV⟩)
  clear q0 q1 q2 c0
  replace x1 := x1.ext eV
  replace x2 := x2.ext eV
  replace r3 := row_ext r3 eV
  replace eW := eW.trans eV
  clear eV
  obtain ⟨q0, q1, q2⟩ := ex_cells x1
  have c0 := exc_beside 0 2 2 ex_beside x1.bath
  go_upto_region 5 with (go_at_call 23; refine c0.mono ?_; rintro e V3 ⟨rfl, eV⟩)
  clear q0 q1 q2 c0
  replace x1 := x1.ext eV
  replace x2 := x2.ext eV
  replace r3 := row_ext r3 eV
  replace eW := eW.trans eV
  clear eV
  obtain ⟨q0, q1, q2⟩ := ex_cells x1
  have c0 := exc_first 0 1 2 3 0 (by kernel_rfl) ex_first x1.bath
  go_upto_region 6 with (go_at_call 25; refine c0.mono ?_; rintro e V4 ⟨rfl, eV⟩)
  clear q0 q1 q2 c0
  replace x1 := x1.ext eV
  replace x2 := x2.ext eV
  replace r3 := row_ext r3 eV
  replace eW := eW.trans eV
  clear eV
  obtain ⟨W4, hW, r4, eV⟩ : ∃ W, V4.alloc (.cells #[.int .i64 2, .int .i64 3] 29) = W ∧ W.heap[V4.heap.size]? = some (.cells #[.int .i64 2, .int .i64 3] 29 (0, 0)) ∧ Ext V4 W := ⟨_, rfl, row_last _ _ _ rfl, (Below.refl _ V4).alloc (Nat.le_refl _) _⟩
  rw [hW]
  replace x1 := x1.ext eV
  replace x2 := x2.ext eV
  replace r3 := row_ext r3 eV
  replace eW := eW.trans eV
  clear hW eV
  generalize V4.heap.size = p4 at r4 ⊢
  obtain ⟨q0, q1, q2⟩ := ex_cells x1
  have c0 := exc_first 0 2 0 0 17 ex_for02 ex_first2 x1.bath
  go_upto_region 7 with (go_at_call 25; refine c0.mono ?_; rintro e V5 ⟨rfl, eV⟩)
  clear q0 q1 q2 c0
  replace x1 := x1.ext eV
  replace x2 := x2.ext eV
  replace r3 := row_ext r3 eV
  replace r4 := row_ext r4 eV
  replace eW := eW.trans eV
  clear eV
  obtain ⟨W5, hW, r5, eV⟩ : ∃ W, V5.alloc (.cells #[.int .i64 0, .int .i64 0] 29) = W ∧ W.heap[V5.heap.size]? = some (.cells #[.int .i64 0, .int .i64 0] 29 (0, 0)) ∧ Ext V5 W := ⟨_, rfl, row_last _ _ _ rfl, (Below.refl _ V5).alloc (Nat.le_refl _) _⟩
  rw [hW]
  replace x1 := x1.ext eV
  replace x2 := x2.ext eV
  replace r3 := row_ext r3 eV
  replace r4 := row_ext r4 eV
  replace eW := eW.trans eV
  clear hW eV
  generalize V5.heap.size = p5 at r5 ⊢
  obtain ⟨q0, q1, q2⟩ := ex_cells x2
  have c0 := exc_room 1 323 (by kernel_rfl) ex_free1 (fun r h => by rw [ex_room1 h]; rfl) x2.bath
  go_upto_region 8 with (go_at_call 27; refine c0.mono ?_; rintro e V6 ⟨rfl, eV⟩)
  clear q0 q1 q2 c0
  replace x1 := x1.ext eV
  replace x2 := x2.ext eV
  replace r3 := row_ext r3 eV
  replace r4 := row_ext r4 eV
  replace r5 := row_ext r5 eV
  replace eW := eW.trans eV
  clear eV
  obtain ⟨q0, q1, q2⟩ := ex_cells x1
  have c0 := exc_full x1.bath
  go_upto_region 9 with (go_at_call 27; refine c0.mono ?_; rintro e V7 ⟨rfl, eV⟩)
  clear q0 q1 q2 c0
  replace x1 := x1.ext eV
  replace x2 := x2.ext eV
  replace r3 := row_ext r3 eV
  replace r4 := row_ext r4 eV
  replace r5 := row_ext r5 eV
  replace eW := eW.trans eV
  clear eV
  obtain ⟨q0, q1, q2⟩ := ex_cells x1
  have c0 := exc_way x1.bath
  go_upto_region 10 with (go_at_call 29; refine c0.mono ?_; rintro e V8 ⟨⟨B1, c1, rfl, hw⟩, eV⟩)
  clear q0 q1 q2 c0
  replace x1 := x1.ext eV
  replace x2 := x2.ext eV
  replace r3 := row_ext r3 eV
  replace r4 := row_ext r4 eV
  replace r5 := row_ext r5 eV
  replace eW := eW.trans eV
  clear eV
  obtain ⟨q0, q1, q2⟩ := ex_cells x1
  have c0 := exc_noway x1.bath
  go_upto_region 11 with (go_at_call 29; refine c0.mono ?_; rintro e V9 ⟨rfl, eV⟩)
  clear q0 q1 q2 c0
  replace x1 := x1.ext eV
  replace x2 := x2.ext eV
  replace r3 := row_ext r3 eV
  replace r4 := row_ext r4 eV
  replace r5 := row_ext r5 eV
  replace hw := hw.ext eV
  replace eW := eW.trans eV
  clear eV
  obtain ⟨q0, q1, q2⟩ := ex_cells x1
  have c0 := exc_side true 2 [0, 1] (by simp) ex_for02 ex_goes1 ex_list1 x1.bath
  go_upto_region 12 with (go_at_call 34; refine c0.mono ?_; rintro e V10 ⟨⟨B2, c2, rfl, hx⟩, eV⟩)
  clear q0 q1 q2 c0
  replace x1 := x1.ext eV
  replace x2 := x2.ext eV
  replace r3 := row_ext r3 eV
  replace r4 := row_ext r4 eV
  replace r5 := row_ext r5 eV
  replace hw := hw.ext eV
  replace eW := eW.trans eV
  clear eV
  obtain ⟨q0, q1, q2⟩ := ex_cells x1
  have c0 := exc_have x1.bath
  go_upto_region 13 with (go_at_call 34; refine c0.mono ?_; rintro e V11 ⟨rfl, eV⟩)
  clear q0 q1 q2 c0
  replace x1 := x1.ext eV
  replace x2 := x2.ext eV
  replace r3 := row_ext r3 eV
  replace r4 := row_ext r4 eV
  replace r5 := row_ext r5 eV
  replace hw := hw.ext eV
  replace hx := hx.ext eV
  replace eW := eW.trans eV
  clear eV
  obtain ⟨q0, q1, q2⟩ := ex_cells x1
  have c0 := exc_groups true [[-2], [-1], [0, 1], [2]] (by simp) (by simp) (by simp) ex_groups1 x1.bath
  go_upto_region 14 with (go_at_call 36; refine c0.mono ?_; rintro e V12 ⟨⟨B3, c3, rfl, hg⟩, eV⟩)
  clear q0 q1 q2 c0
  replace x1 := x1.ext eV
  replace x2 := x2.ext eV
  replace r3 := row_ext r3 eV
  replace r4 := row_ext r4 eV
  replace r5 := row_ext r5 eV
  replace hw := hw.ext eV
  replace hx := hx.ext eV
  replace eW := eW.trans eV
  clear eV
  have eA : Ext V12 (V12.alloc (.cells #[.int .i64 0, .int .i64 1, .int .i64 2] 3)) := (Below.refl _ V12).alloc (Nat.le_refl _) _
  obtain ⟨q0, q1, q2⟩ := ex_cells x1
  have c0 := exc_checkWay (some ⟨V12.heap.size, 0, none⟩) (held_ints [0, 1, 2] (row_last V12 _ _ rfl) rfl) (x1.ext eA).bath
  go_upto_region 15 with (go_at_call 32; refine c0.mono ?_; rintro e V13 ⟨rfl, eV⟩)
  replace eV := eA.trans eV
  clear q0 q1 q2 c0
  replace x1 := x1.ext eV
  replace x2 := x2.ext eV
  replace r3 := row_ext r3 eV
  replace r4 := row_ext r4 eV
  replace r5 := row_ext r5 eV
  replace hw := hw.ext eV
  replace hx := hx.ext eV
  replace hg := hg.ext eV
  replace eW := eW.trans eV
  clear eV eA
  have eA : Ext V13 (V13.alloc (.cells #[.int .i64 0] 3)) := (Below.refl _ V13).alloc (Nat.le_refl _) _
  obtain ⟨q0, q1, q2⟩ := ex_cells x1
  have c0 := exc_checkSide (some ⟨V13.heap.size, 0, none⟩) (held_ints [0] (row_last V13 _ _ rfl) rfl) (x1.ext eA).bath
  go_upto_region 16 with (go_at_call 39; refine c0.mono ?_; rintro e V14 ⟨rfl, eV⟩)
  replace eV := eA.trans eV
  clear q0 q1 q2 c0
  replace x1 := x1.ext eV
  replace x2 := x2.ext eV
  replace r3 := row_ext r3 eV
  replace r4 := row_ext r4 eV
  replace r5 := row_ext r5 eV
  replace hw := hw.ext eV
  replace hx := hx.ext eV
  replace hg := hg.ext eV
  replace eW := eW.trans eV
  clear eV eA
  go_upto_region 18 with fail
  clear x1 x2
  have HW := Lib.hid eW
  refine wp_region_specs (ops := reg18) (worksS B1 c1 B2 c2 B3 c3) (Ext V14) (by kernel_rfl) (by kernel_rfl) ⟨rfl, rfl, rfl, Nat.le_refl _, fun _ _ => rfl⟩ (fun _ _ h e => h.trans e) (worksS_ext B1 c1 B2 c2 B3 c3) D39 (by kernel_rfl) ?_ ?_
  · intro i o ho a W hB hsz hold haft
    have hi : i < 40 := (Array.getElem?_eq_some_iff.1 ho).1
    match i, hi with
    | 0, _ => exact works_op0 r3 (hold 3 (by kernel_rfl)) ho hB haft
    | 1, _ => exact works_op1 ho hB haft
    | 2, _ => exact works_op2 ho hB haft
    | 3, _ => exact works_op3 ho hB haft
    | 4, _ => exact works_op4 (hold 5 (by kernel_rfl)) ho hB haft
    | 5, _ => exact works_op5 ho hB haft
    | 6, _ => exact works_op6 ho hB haft
    | 7, _ => exact works_op7 ho hB haft
    | 8, _ => exact works_op8 (hold 7 (by kernel_rfl)) ho hB haft
    | 9, _ => exact works_op9 ho hB haft
    | 10, _ => exact works_op10 ho hB haft
    | 11, _ => exact works_op11 ho hB haft
    | 12, _ => exact works_op12 r4 (hold 9 (by kernel_rfl)) ho hB haft
    | 13, _ => exact works_op13 ho hB haft
    | 14, _ => exact works_op14 ho hB haft
    | 15, _ => exact works_op15 ho hB haft
    | 16, _ => exact works_op16 ho hB haft
    | 17, _ => exact works_op17 (hold 13 (by kernel_rfl)) ho hB haft
    | 18, _ => exact works_op18 ho hB haft
    | 19, _ => exact works_op19 ho hB haft
    | 20, _ => exact works_op20 ho hB haft
    | 21, _ => exact works_op21 (hold 17 (by kernel_rfl)) ho hB haft
    | 22, _ => exact works_op22 ho hB haft
    | 23, _ => exact works_op23 hw ho hB haft
    | 24, _ => exact works_op24 ho hB haft
    | 25, _ => exact works_op25 ho hB haft
    | 26, _ => exact works_op26 (hold 21 (by kernel_rfl)) ho hB haft
    | 27, _ => exact works_op27 ho hB haft
    | 28, _ => exact works_op28 hx ho hB haft
    | 29, _ => exact works_op29 ho hB haft
    | 30, _ => exact works_op30 ho hB haft
    | 31, _ => exact works_op31 (hold 25 (by kernel_rfl)) ho hB haft
    | 32, _ => exact works_op32 ho hB haft
    | 33, _ => exact works_op33 ho hB haft
    | 34, _ => exact works_op34 ho hB haft
    | 35, _ => exact works_op35 ho hB haft
    | 36, _ => exact works_op36 ho hB haft
    | 37, _ => exact works_op37 hg ho hB haft
    | 38, _ => exact works_op38 ho hB haft
    | 39, _ => exact works_op39 ho hB haft
    | n + 40, h => exact absurd h (by omega)
  · intro a W hB hsz hdf hold hS
    have e39 : a.eval (.tmp 0) = .bool true := hS 39 (show 39 < reg18.size from Nat.lt_of_lt_of_eq (by omega) (show 40 = reg18.size by kernel_rfl))
    obtain ⟨tmps, dfs⟩ := a
    obtain rfl : dfs = [] := hdf
    simp only [Exit.then]
    go_at_K
    go_wp2
    exact bodyPost_ret (results_tmp rfl _ _ _) rfl ⟨congrArg Ending.returned e39, HW.out.trans hB⟩
end Go.Proofs.Ytgdpgdnhhjclcaa

/- The reference's small functions: IsSpot, Ends, SizeOf. -/
namespace Go.Proofs.Ytgdpgdnhhjclcaa
open Go.RowKit Go.Shelf

/-- A variable at p that holds a bath. -/
structure BathAt (W : World) (p : Nat) (Wd : Int) (A : Option Addr) (n c : Nat) (A' : Option Addr) (n' c' : Nat) (ss : List (Int × Int)) (ds : List (Int × Int × Int)) : Prop where
  row : W.heap[p]? = some (.cells #[.int .i64 Wd, .slice A n c, .slice A' n' c'] 25 (0, 0))
  bath : IsBath W W.heap.size A n c A' n' c' ss ds

section
variable {w W W' : World} {p : Nat} {Wd : Int} {A : Option Addr} {n c : Nat} {A' : Option Addr} {n' c' : Nat} {ss : List (Int × Int)} {ds : List (Int × Int × Int)}
theorem IsBath.ext (h : IsBath W W.heap.size A n c A' n' c' ss ds) (e : Ext W W') : IsBath W' W'.heap.size A n c A' n' c' ss ds := (h.kept e (Nat.le_refl _)).wider e.size
theorem BathAt.ext (h : BathAt W p Wd A n c A' n' c' ss ds) (e : Ext W W') : BathAt W' p Wd A n c A' n' c' ss ds := ⟨row_ext h.row e, h.bath.ext e⟩
theorem ext_alloc (w : World) (o : Obj) : Ext w (w.alloc o) := (Below.refl _ w).alloc (Nat.le_refl _) _
theorem ext_drewN {w W : World} (h : Ext w W) (k : Nat) : Ext w (W.drewN k) := bdrewN h k
theorem BathAt.new (h : IsBath w w.heap.size A n c A' n' c' ss ds) : BathAt (w.alloc (.cells #[.int .i64 Wd, .slice A n c, .slice A' n' c'] 25)) w.heap.size Wd A n c A' n' c' ss ds :=
  ⟨row_last w _ _ rfl, h.ext (ext_alloc w _)⟩
theorem BathAt.cells (h : BathAt W p Wd A n c A' n' c' ss ds) : W.cell? ⟨p, 0, none⟩ = some (.int .i64 Wd) ∧ W.cell? ⟨p, 1, none⟩ = some (.slice A n c) ∧ W.cell? ⟨p, 2, none⟩ = some (.slice A' n' c') :=
  ⟨cell_of_row _ _ _ _ _ _ h.row, cell_of_row _ _ _ _ _ _ h.row, cell_of_row _ _ _ _ _ _ h.row⟩
theorem BathAt.spot (h : BathAt W p Wd A n c A' n' c' ss ds) {k : Nat} (hk : k < n) : ∃ b off, A = some ⟨b, off, none⟩ ∧ W.cell? ⟨b, off + k * 2, none⟩ = some (.int .i64 (ss.getD k (0, 0)).1) ∧ W.cell? ⟨b, off + k * 2 + 1, none⟩ = some (.int .i64 (ss.getD k (0, 0)).2) := by
  have hkl : k < ss.length := by rw [← h.bath.nss]; exact hk
  rcases h.bath.hss with e | ⟨b, off, rfl, _, hc⟩
  · simp [e] at hkl
  · have e := List.getElem?_eq_getElem hkl
    have e2 : ss.getD k (0, 0) = ss[k] := by simp [e]
    rw [e2]
    exact ⟨b, off, rfl, hc k _ e 0 _ rfl, hc k _ e 1 _ rfl⟩
theorem BathAt.drop (h : BathAt W p Wd A n c A' n' c' ss ds) {k : Nat} (hk : k < n') : ∃ b off, A' = some ⟨b, off, none⟩ ∧ W.cell? ⟨b, off + k * 3, none⟩ = some (.int .i64 (ds.getD k (0, 0, 0)).1) ∧ W.cell? ⟨b, off + k * 3 + 1, none⟩ = some (.int .i64 (ds.getD k (0, 0, 0)).2.1) ∧ W.cell? ⟨b, off + k * 3 + 2, none⟩ = some (.int .i64 (ds.getD k (0, 0, 0)).2.2) := by
  have hkl : k < ds.length := by rw [← h.bath.nds]; exact hk
  rcases h.bath.hds with e | ⟨b, off, rfl, _, hc⟩
  · simp [e] at hkl
  · have e := List.getElem?_eq_getElem hkl
    have e2 : ds.getD k (0, 0, 0) = ds[k] := by simp [e]
    rw [e2]
    exact ⟨b, off, rfl, hc k _ e 0 _ rfl, hc k _ e 1 _ rfl, hc k _ e 2 _ rfl⟩

set_option maxHeartbeats 400000 in
theorem isSpot_ref (x : Int) (w : World) : Calls Try.prog 60 #[.agg #[.int .i64 Wd, .slice A n c, .slice A' n' c'], .int .i64 x] w fun e w' => e = .returned (.bool (decide (0 ≤ x) && decide (x < (n : Int)))) ∧ Ext w w' := by
  by_cases h1 : 0 ≤ x
  · by_cases h2 : x < (n : Int)
    · go_enter Try.func60, Try.ntmps60
      go_wp2
      go_ret
      exact ⟨ret_bool (by simp [h1, h2]), ext_alloc w _⟩
    · go_enter Try.func60, Try.ntmps60
      go_wp2
      go_ret
      exact ⟨ret_bool (by simp [h2]), ext_alloc w _⟩
  · go_enter Try.func60, Try.ntmps60
    go_wp2
    go_ret
    exact ⟨ret_bool (by simp; omega), ext_alloc w _⟩

/-- The least or the greatest truth. -/
def endOf (high : Bool) (d : Int × Int × Int) : Int := if high then d.2.2 else d.2.1
/-- A slice of int64 numbers that the call made. -/
def Made64 (base : Nat) (xs : List Int) (w : World) (v : Value) : Prop := w.ownsRow base 2 1 v xs.length (xs.map (Value.int .i64)) ∧ (xs = [] → v = .slice none 0 0)
theorem info2 : (Try.prog.info? 2).map (fun i => (i.zero, i.size, i.bytes)) = some (some (.int .i64 0), 1, 8) := by kernel_rfl
theorem ends_succ (high : Bool) (ds : List (Int × Int × Int)) {k : Nat} (hk : k < ds.length) : (ds.take (k + 1)).map (endOf high) = (ds.take k).map (endOf high) ++ [endOf high (ds.getD k (0, 0, 0))] := by
  rw [List.take_succ_eq_append_getElem hk, List.map_append]
  simp [List.getElem?_eq_getElem hk]

set_option maxHeartbeats 2000000 in
theorem ends_ref (high : Bool) (hb : IsBath w w.heap.size A n c A' n' c' ss ds) (h100 : n' ≤ 100) :
    Calls Try.prog 61 #[.agg #[.int .i64 Wd, .slice A n c, .slice A' n' c'], .bool high] w fun e w' => ∃ v, e = .returned v ∧ Made64 w.heap.size (ds.map (endOf high)) w' v ∧ Ext w w' := by
  obtain ⟨i0, hi, hz0, hz1, hz2⟩ := info_parts info2
  have HI := Lib.hid hi
  have HZ0 := Lib.hid hz0
  have HZ1 := Lib.hid hz1
  have HZ2 := Lib.hid hz2
  have h0 := BathAt.new (Wd := Wd) hb
  have hnd := hb.nds
  have HND := Lib.hid hnd
  clear hi hz0 hz1 hz2 hnd hb
  go_enter Try.func61, Try.ntmps61
  go_wp2
  obtain ⟨w0, hw0⟩ : ∃ w0, w.alloc (.cells #[.int .i64 Wd, .slice A n c, .slice A' n' c'] 25) = w0 := ⟨_, rfl⟩
  have e0 : Ext w w0 := by rw [← hw0]; exact ext_alloc w _
  have z0 : w0.heap.size = w.heap.size + 1 := by rw [← hw0]; simp
  rw [hw0] at h0 ⊢
  have E0 := Lib.hid e0
  have H0 := Lib.hid h0
  clear hw0 e0 h0
  go_loopw [5, 6, 7] (fun v i _ wr => ∃ k : Nat, k ≤ n' ∧ i = .int .i64 k ∧ Hid (Ext w0 wr) ∧ Hid (Made64 (w.heap.size + 1) ((ds.take k).map (endOf high)) wr v)) (fun _ i _ _ => n' - (intOf i).toNat)
  case atStart => exact ⟨0, Nat.zero_le _, rfl, Lib.hid (Ext.refl _), Lib.hid ⟨World.ownsRow_nil _ _ _ _, fun _ => rfl⟩⟩
  case round =>
    obtain ⟨k, hk, rfl, hB, hO⟩ := hrel
    have hsz := hB.out.size
    have hx := H0.out.ext hB.out
    obtain ⟨q0, q1, q2⟩ := hx.cells
    by_cases hlt : k < n'
    · have hltz : (k : Int) < (n' : Int) := by omega
      obtain ⟨b, off, rfl, d0, d1, d2⟩ := hx.drop hlt
      have hs := ends_succ high ds (k := k) (by rw [← HND.out]; exact hlt)
      have hl : ((ds.take k).map (endOf high)).length ≤ 100 := by simp; omega
      obtain ⟨x, hxx⟩ : ∃ x, endOf high (ds.getD k (0, 0, 0)) = x := ⟨_, rfl⟩
      rw [hxx] at hs
      have HS := Lib.hid hs
      clear hs hx q0 q1
      cases high with
      | true =>
        have hxx' : (ds.getD k (0, 0, 0)).2.2 = x := hxx
        rw [hxx'] at d2
        clear hxx hxx' d0
        generalize (ds.getD k (0, 0, 0)).2.1 = y at d1
        go_wp2_with (first | (at_builtin; refine wpList_append_own _ rfl (.tmp 30) (.tmp 32) 55 rfl (w.heap.size + 1) 2 i0 (.int .i64 0) 1 8 Try.underlying55 HI.out HZ0.out HZ1.out HZ2.out rfl (by decide) _ ((ds.take k).map (endOf true)).length _ rfl (hO.out.1.alloc _) ⟨wr.heap.size, 0, none⟩ 1 1 [.int .i64 x] rfl rfl (cell_one_new _ _ _) (one_cell' _) ?c3 ?c4 ?c5 ?_))
        case c3 => unfold maxLen; omega
        case c4 => omega
        case c5 => simp; omega
        · intro v' w1 hown' hgrow _
          have hB1 : Hid (Ext w0 w1) := Lib.hid (((hB.out.alloc hsz (.cells #[.int .i64 x] 2)).grown hgrow (by simp; omega) (fun b e => by have := (hO.out.1.lt b e).1; omega)))
          have hO1 : Hid (Made64 (w.heap.size + 1) ((ds.take (k + 1)).map (endOf true)) w1 v') := Lib.hid ⟨by
            rw [HS.out, List.length_append, List.map_append]
            simpa using hown', fun e => by rw [HS.out] at e; simp at e⟩
          clear hown' hgrow hO hB
          go_wp2
          go_roundw
          case measure => simp [intOf]; omega
          case rel => exact ⟨k + 1, by omega, by go_num, hB1, hO1⟩
      | false =>
        have hxx' : (ds.getD k (0, 0, 0)).2.1 = x := hxx
        rw [hxx'] at d1
        clear hxx hxx' d0 d2
        go_wp2_with (first | (at_builtin; refine wpList_append_own _ rfl (.tmp 30) (.tmp 32) 55 rfl (w.heap.size + 1) 2 i0 (.int .i64 0) 1 8 Try.underlying55 HI.out HZ0.out HZ1.out HZ2.out rfl (by decide) _ ((ds.take k).map (endOf false)).length _ rfl (hO.out.1.alloc _) ⟨wr.heap.size, 0, none⟩ 1 1 [.int .i64 x] rfl rfl (cell_one_new _ _ _) (one_cell' _) ?c3 ?c4 ?c5 ?_))
        case c3 => unfold maxLen; omega
        case c4 => omega
        case c5 => simp; omega
        · intro v' w1 hown' hgrow _
          have hB1 : Hid (Ext w0 w1) := Lib.hid (((hB.out.alloc hsz (.cells #[.int .i64 x] 2)).grown hgrow (by simp; omega) (fun b e => by have := (hO.out.1.lt b e).1; omega)))
          have hO1 : Hid (Made64 (w.heap.size + 1) ((ds.take (k + 1)).map (endOf false)) w1 v') := Lib.hid ⟨by
            rw [HS.out, List.length_append, List.map_append]
            simpa using hown', fun e => by rw [HS.out] at e; simp at e⟩
          clear hown' hgrow hO hB
          go_wp2
          go_roundw
          case measure => simp [intOf]; omega
          case rel => exact ⟨k + 1, by omega, by go_num, hB1, hO1⟩
    · have hltz : ¬ (k : Int) < (n' : Int) := by omega
      obtain rfl : k = n' := by omega
      clear hx
      go_wp2
      go_ret
      refine ⟨_, rfl, ?_, E0.out.trans hB.out⟩
      have := hO.out
      rw [HND.out, List.take_length] at this
      exact ⟨owns_mono this.1 (by omega), this.2⟩
end
end Go.Proofs.Ytgdpgdnhhjclcaa

/- The reference's SizeOf: the sum of the numbers of the drops on a spot. -/
namespace Go.Proofs.Ytgdpgdnhhjclcaa
open Go.RowKit Go.Shelf

/-- The sum of the numbers of those of the first k drops that are on spot x. -/
def sumAt (ds : List (Int × Int × Int)) (ts : List Int) (x : Int) : Nat → Int
  | 0 => 0
  | k + 1 => sumAt ds ts x k + (if (ds.getD k (0, 0, 0)).1 = x then ts.getD k 0 else 0)
theorem sumAt_bd (ds : List (Int × Int × Int)) (ts : List Int) (x : Int) (h : ∀ k, 0 ≤ ts.getD k 0 ∧ ts.getD k 0 ≤ 10000) : ∀ k : Nat, 0 ≤ sumAt ds ts x k ∧ sumAt ds ts x k ≤ 10000 * k
  | 0 => by simp [sumAt]
  | k + 1 => by
    have h1 := sumAt_bd ds ts x h k
    have h2 := h k
    simp only [sumAt]
    split <;> omega

section
variable {w : World} {Wd : Int} {A : Option Addr} {n c : Nat} {A' : Option Addr} {n' c' : Nat} {ss : List (Int × Int)} {ds : List (Int × Int × Int)}

set_option maxHeartbeats 1000000 in
theorem sizeOf_ref (T : Option Addr) (m cT : Nat) (ts : List Int) (x : Int) (hb : IsBath w w.heap.size A n c A' n' c' ss ds) (h100 : n' ≤ 100) (hm : m = ts.length) (hmn : n' ≤ m) (hmm : m ≤ 9223372036854775807) (ht : Held w w.heap.size 1 encI T ts)
    (hbd : ∀ k, 0 ≤ ts.getD k 0 ∧ ts.getD k 0 ≤ 10000) :
    Calls Try.prog 45 #[.agg #[.int .i64 Wd, .slice A n c, .slice A' n' c'], .slice T m cT, .int .i64 x] w fun e w' => e = .returned (.int .i64 (sumAt ds ts x n')) ∧ Ext w w' := by
  have h0 := BathAt.new (Wd := Wd) hb
  have HM := Lib.hid hm
  have HBD := Lib.hid (fun k => sumAt_bd ds ts x hbd k)
  have HB := Lib.hid hbd
  clear hb hm hbd
  go_enter Try.func45, Try.ntmps45
  go_wp2
  obtain ⟨w0, hw0⟩ : ∃ w0, w.alloc (.cells #[.int .i64 Wd, .slice A n c, .slice A' n' c'] 25) = w0 := ⟨_, rfl⟩
  have e0 : Ext w w0 := by rw [← hw0]; exact ext_alloc w _
  rw [hw0] at h0 ⊢
  have E0 := Lib.hid e0
  have H0 := Lib.hid h0
  clear hw0 e0 h0
  go_loopw [7, 8] (fun s i wr => ∃ k : Nat, k ≤ n' ∧ i = .int .i64 k ∧ s = .int .i64 (sumAt ds ts x k) ∧ Hid (Ext w0 wr)) (fun _ i _ => n' - (intOf i).toNat)
  case atStart => exact ⟨0, Nat.zero_le _, rfl, rfl, Lib.hid (Ext.refl _)⟩
  case round =>
    obtain ⟨k, hk, rfl, rfl, hB⟩ := hrel
    have hx := H0.out.ext hB.out
    obtain ⟨q0, q1, q2⟩ := hx.cells
    by_cases hlt : k < n'
    · have hltz : (k : Int) < (n' : Int) := by omega
      have hkm : (k : Int) < (m : Int) := by omega
      obtain ⟨b, off, rfl, d0, d1, d2⟩ := hx.drop hlt
      have hkt : k < ts.length := by rw [← HM.out]; omega
      obtain ⟨b', off', rfl, hc⟩ := held_get ht (E0.out.trans hB.out) hkt
      have hs : sumAt ds ts x (k + 1) = sumAt ds ts x k + (if (ds.getD k (0, 0, 0)).1 = x then ts.getD k 0 else 0) := rfl
      have hg : ts.getD k 0 = ts[k] := by simp [List.getElem?_eq_getElem hkt]
      have b1 := HBD.out k
      have b2 := HB.out k
      rw [hg] at b2 hs
      obtain ⟨s, hsx⟩ : ∃ s, sumAt ds ts x k = s := ⟨_, rfl⟩
      rw [hsx] at b1 hs ⊢
      obtain ⟨y, hy⟩ : ∃ y, (ds.getD k (0, 0, 0)).1 = y := ⟨_, rfl⟩
      rw [hy] at d0 hs
      obtain ⟨t, htt⟩ : ∃ t, ts[k] = t := ⟨_, rfl⟩
      rw [htt] at hc b2 hs
      have hs1 : s ≤ 1000000 := by omega
      obtain ⟨hs0, _⟩ := b1
      obtain ⟨ht0, ht1⟩ := b2
      clear hx q0 q1 d1 d2 hsx hy htt hg ht
      by_cases hyx : y = x
      · have HS : Hid (sumAt ds ts x (k + 1) = s + t) := Lib.hid (by rw [hs, if_pos hyx])
        subst hyx
        clear hs
        go_wp2
        go_roundw
        case measure => simp [intOf]; omega
        case rel => exact ⟨k + 1, by omega, by go_num, by rw [HS.out], hB⟩
      · have HS : Hid (sumAt ds ts x (k + 1) = s) := Lib.hid (by rw [hs, if_neg hyx]; omega)
        have hyx2 : (y == x) = false := by simp [hyx]
        clear hs
        go_wp2
        go_roundw
        case measure => simp [intOf]; omega
        case rel => exact ⟨k + 1, by omega, by go_num, by rw [HS.out], hB⟩
    · have hltz : ¬ (k : Int) < (n' : Int) := by omega
      obtain rfl : k = n' := by omega
      clear hx
      go_wp2
      go_ret
      exact ⟨rfl, E0.out.trans hB.out⟩
end

/-- The ends of a size are the sums of the ends of the drops. -/
theorem sumAt_ends (high : Bool) (ds : List (Int × Int × Int)) (i : Nat) : sumAt ds (ds.map (endOf high)) i ds.length = if high then (sizes ds i).2 else (sizes ds i).1 := by
  have key : ∀ k, k ≤ ds.length → sumAt ds (ds.map (endOf high)) i k = if high then (sizes (ds.take k) i).2 else (sizes (ds.take k) i).1 := by
    intro k
    induction k with
    | zero => intro _; cases high <;> simp [sumAt, sizes]
    | succ k ih =>
      intro hk
      have hkl : k < ds.length := by omega
      rw [sizes_snoc ds k hkl]
      simp only [sumAt]
      rw [ih (by omega)]
      have e1 : ds.getD k (0, 0, 0) = ds[k] := by simp [List.getElem?_eq_getElem hkl]
      have e2 : (ds.map (endOf high)).getD k 0 = endOf high ds[k] := by simp [List.getElem?_eq_getElem hkl]
      rw [e1, e2]
      unfold addTo endOf
      by_cases hx : (ds[k]).1 = (i : Int) <;> cases high <;> simp [hx]
  rw [key _ (Nat.le_refl _), List.take_length]
end Go.Proofs.Ytgdpgdnhhjclcaa

/- The reference's CheckBath: the same error. -/
namespace Go.Proofs.Ytgdpgdnhhjclcaa
open Go.RowKit Go.Shelf

theorem bathErr_width {Wd : Int} {ss : List (Int × Int)} {ds : List (Int × Int × Int)} (h : ¬ (2 ≤ Wd ∧ Wd ≤ 1000)) : bathErr Wd ss ds = 2 := by
  unfold bathErr
  rw [if_neg (by simp [inside]; omega)]
theorem bathErr_more {Wd : Int} {ss : List (Int × Int)} {ds : List (Int × Int × Int)} (h : 2 ≤ Wd ∧ Wd ≤ 1000) : bathErr Wd ss ds = if ss.length ≤ 10 ∧ ds.length ≤ 40 then if ss.all (spotOk Wd) then if ss.Nodup then if ds.all (dropOk ss.length) then 0 else 16 else 15 else 3 else 6 := by
  unfold bathErr
  rw [if_pos (by simp [inside]; omega)]
theorem take_all_succ {α : Type} (p : α → Bool) (xs : List α) {k : Nat} (hk : k < xs.length) (x : α) (hx : xs.getD k x = x) (h : (xs.take k).all p = true) (hp : p x = true) : (xs.take (k + 1)).all p = true := by
  have e : xs[k] = x := by rw [← hx]; simp [List.getElem?_eq_getElem hk]
  rw [List.take_succ_eq_append_getElem hk, List.all_append, h, e]
  simp [hp]
theorem all_no {α : Type} (p : α → Bool) (xs : List α) {k : Nat} (hk : k < xs.length) (x : α) (hx : xs.getD k x = x) (hp : p x = false) : xs.all p = false := by
  have e : xs[k] = x := by rw [← hx]; simp [List.getElem?_eq_getElem hk]
  rw [List.all_eq_false]
  exact ⟨x, e ▸ List.getElem_mem hk, by simp [hp]⟩
theorem nodup_succ {α : Type} (xs : List α) {k : Nat} (hk : k < xs.length) (h : (xs.take k).Nodup) (hn : ∀ j, (hj : j < k) → xs[k] ≠ xs[j]'(by omega)) : (xs.take (k + 1)).Nodup := by
  rw [List.take_succ_eq_append_getElem hk, List.nodup_append]
  refine ⟨h, by simp, fun a ha b hb => ?_⟩
  simp only [List.mem_singleton] at hb
  subst hb
  obtain ⟨j, hj, rfl⟩ := List.mem_iff_getElem.1 ha
  have hjk : j < k := by simp at hj; omega
  rw [List.getElem_take]
  exact fun e => hn j hjk e.symm

section
variable {w : World} {Wd : Int} {A : Option Addr} {n c : Nat} {A' : Option Addr} {n' c' : Nat} {ss : List (Int × Int)} {ds : List (Int × Int × Int)}

set_option maxRecDepth 100000 in
set_option maxHeartbeats 8000000 in
theorem checkBath_ref (hb : IsBath w w.heap.size A n c A' n' c' ss ds) :
    Calls Try.prog 20 #[.agg #[.int .i64 Wd, .slice A n c, .slice A' n' c']] w fun e w' => e = .returned (.int .i64 (bathErr Wd ss ds)) ∧ Ext w w' := by
  obtain ⟨ans, hans⟩ : ∃ ans, bathErr Wd ss ds = ans := ⟨_, rfl⟩
  rw [hans]
  have h0 := BathAt.new (Wd := Wd) hb
  obtain ⟨w0, hw0⟩ : ∃ w0, w.alloc (.cells #[.int .i64 Wd, .slice A n c, .slice A' n' c'] 25) = w0 := ⟨_, rfl⟩
  have e0 : Ext w w0 := by rw [← hw0]; exact ext_alloc w _
  rw [hw0] at h0
  have HW := Lib.hid hw0
  have E0 := Lib.hid e0
  have H0 := Lib.hid h0
  have HANS := Lib.hid hans
  have HNS := Lib.hid hb.nss
  have HND := Lib.hid hb.nds
  clear hw0 e0 h0 hans hb
  by_cases h1 : Wd < 2
  · obtain rfl : ans = 2 := by rw [← HANS.out]; exact bathErr_width (by omega)
    go_enter Try.func20, Try.ntmps20
    go_wp2
    go_ret
    exact ⟨rfl, by rw [HW.out]; exact E0.out⟩
  by_cases h2 : 1000 < Wd
  · obtain rfl : ans = 2 := by rw [← HANS.out]; exact bathErr_width (by omega)
    go_enter Try.func20, Try.ntmps20
    go_wp2
    go_ret
    exact ⟨rfl, by rw [HW.out]; exact E0.out⟩
  have HANS2 : Hid (ans = if ss.length ≤ 10 ∧ ds.length ≤ 40 then if ss.all (spotOk Wd) then if ss.Nodup then if ds.all (dropOk ss.length) then 0 else 16 else 15 else 3 else 6) := Lib.hid (by rw [← HANS.out]; exact bathErr_more (by omega))
  clear HANS
  by_cases h3 : 10 < n
  · obtain rfl : ans = 6 := by rw [HANS2.out, if_neg (by rw [← HNS.out]; omega)]
    have h3z : (10 : Int) < (n : Int) := by omega
    go_enter Try.func20, Try.ntmps20
    go_wp2
    go_ret
    exact ⟨rfl, by rw [HW.out]; exact E0.out⟩
  by_cases h4 : 40 < n'
  · obtain rfl : ans = 6 := by rw [HANS2.out, if_neg (by rw [← HND.out]; omega)]
    have h3z : ¬ (10 : Int) < (n : Int) := by omega
    have h4z : (40 : Int) < (n' : Int) := by omega
    go_enter Try.func20, Try.ntmps20
    go_wp2
    go_ret
    exact ⟨rfl, by rw [HW.out]; exact E0.out⟩
  have HANS : Hid (ans = if ss.all (spotOk Wd) then if ss.Nodup then if ds.all (dropOk ss.length) then 0 else 16 else 15 else 3) := Lib.hid (by rw [HANS2.out, if_pos (by rw [← HNS.out, ← HND.out]; omega)])
  clear HANS2
  have h3z : ¬ (10 : Int) < (n : Int) := by omega
  have h4z : ¬ (40 : Int) < (n' : Int) := by omega
  go_enter Try.func20, Try.ntmps20
  go_wp2
  rw [HW.out]
  clear h1 h2 h3z h4z HW
  go_loopw [3] (fun i wr => ∃ k : Nat, k ≤ n ∧ i = .int .i64 k ∧ Hid (Ext w0 wr) ∧ Hid ((ss.take k).all (spotOk Wd) = true)) (fun i _ => n - (intOf i).toNat)
  case atStart => exact ⟨0, Nat.zero_le _, rfl, Lib.hid (Ext.refl _), Lib.hid rfl⟩
  case round =>
    obtain ⟨k, hk, rfl, hB, hA⟩ := hrel
    have hx := H0.out.ext hB.out
    obtain ⟨q0, q1, q2⟩ := hx.cells
    by_cases hlt : k < n
    · have hltz : (k : Int) < (n : Int) := by omega
      obtain ⟨b, off, rfl, d0, d1⟩ := hx.spot hlt
      have hkl : k < ss.length := by rw [← HNS.out]; exact hlt
      obtain ⟨p, hp⟩ : ∃ p, ss.getD k (0, 0) = p := ⟨_, rfl⟩
      have hp2 : ss.getD k p = p := by rw [← hp]; simp [List.getElem?_eq_getElem hkl]
      rw [hp] at d0 d1
      obtain ⟨X, Y⟩ := p
      simp only at d0 d1
      have HP := Lib.hid hp2
      clear hx hp hp2
      have fail3 : spotOk Wd (X, Y) = false → ans = 3 := fun h => by rw [HANS.out, if_neg (by rw [all_no (spotOk Wd) ss hkl _ HP.out h]; simp)]
      have F3 := Lib.hid fail3
      clear fail3
      by_cases g1 : X < 1
      · obtain rfl : ans = 3 := F3.out (by simp [spotOk, inside]; omega)
        go_wp2
        go_quiet (fail)
        go_wp2
        go_ret
        exact ⟨rfl, E0.out.trans (ext_drewN hB.out _)⟩
      have g1' : decide (X < 1) = false := by simp [g1]
      by_cases g2 : Wd ≤ X
      · obtain rfl : ans = 3 := F3.out (by simp [spotOk, inside]; omega)
        go_wp2
        go_quiet (fail)
        go_wp2
        go_ret
        exact ⟨rfl, E0.out.trans (ext_drewN hB.out _)⟩
      have g2' : decide (Wd ≤ X) = false := by simp [g2]
      by_cases g3 : Y < 0
      · obtain rfl : ans = 3 := F3.out (by simp [spotOk, inside]; omega)
        go_wp2
        go_quiet (fail)
        go_wp2
        go_ret
        exact ⟨rfl, E0.out.trans (ext_drewN hB.out _)⟩
      have g3' : decide (Y < 0) = false := by simp [g3]
      by_cases g4 : 1000 < Y
      · obtain rfl : ans = 3 := F3.out (by simp [spotOk, inside]; omega)
        go_wp2
        go_quiet (fail)
        go_wp2
        go_ret
        exact ⟨rfl, E0.out.trans (ext_drewN hB.out _)⟩
      have g4' : decide (1000 < Y) = false := by simp [g4]
      have hA1 : Hid ((ss.take (k + 1)).all (spotOk Wd) = true) := Lib.hid (take_all_succ _ _ hkl _ HP.out hA.out (by simp [spotOk, inside]; omega))
      clear F3 hA
      go_wp2
      go_quiet (fail)
      go_wp2
      go_roundw
      case measure => simp [intOf]; omega
      case rel => exact ⟨k + 1, by omega, by go_num, Lib.hid (ext_drewN hB.out _), hA1⟩
    · have hltz : ¬ (k : Int) < (n : Int) := by omega
      have hkn : k = n := by omega
      have HAN : Hid (ans = if ss.Nodup then if ds.all (dropOk ss.length) then 0 else 16 else 15) := Lib.hid (by
        have := hA.out
        rw [hkn, HNS.out, List.take_length] at this
        rw [HANS.out, if_pos this])
      clear HANS hA hx
      go_wp2
      clear q0 q1 q2 hltz hlt
      have EB := hB
      clear hB hk
      go_loopw [4, 5] (fun i _ wr => ∃ k : Nat, k ≤ n ∧ i = .int .i64 k ∧ Hid (Ext w0 wr) ∧ Hid ((ss.take k).Nodup)) (fun i _ _ => n - (intOf i).toNat)
      case atStart => exact ⟨0, Nat.zero_le _, rfl, EB, Lib.hid List.nodup_nil⟩
      case round =>
        obtain ⟨k, hk, rfl, hB, hA⟩ := hrel
        have hx := H0.out.ext hB.out
        obtain ⟨q0, q1, q2⟩ := hx.cells
        by_cases hlt : k < n
        · have hltz : (k : Int) < (n : Int) := by omega
          have hkl : k < ss.length := by rw [← HNS.out]; exact hlt
          clear hx
          go_wp2
          clear q0 q1 q2
          go_loopw [5] (fun i wr => ∃ j : Nat, j ≤ k ∧ i = .int .i64 j ∧ Hid (Ext w0 wr) ∧ Hid (∀ m, (hm : m < j) → (hl : m < ss.length) → ss[k] ≠ ss[m])) (fun i _ => k - (intOf i).toNat)
          case atStart => exact ⟨0, Nat.zero_le _, rfl, hB, Lib.hid (fun m hm => absurd hm (by omega))⟩
          case round =>
            obtain ⟨j, hj, rfl, hB2, hN⟩ := hrel
            have hx := H0.out.ext hB2.out
            obtain ⟨q0, q1, q2⟩ := hx.cells
            by_cases hjk : j < k
            · have hjkz : (j : Int) < (k : Int) := by omega
              have hjn : (j : Int) < (n : Int) := by omega
              have hjl : j < ss.length := by omega
              obtain ⟨b, off, rfl, d0, d1⟩ := hx.spot hlt
              obtain ⟨b', off', hbb, c0, c1⟩ := hx.spot (k := j) (by omega)
              cases hbb
              obtain ⟨x, hxk⟩ : ∃ x, ss[k] = x := ⟨_, rfl⟩
              obtain ⟨y, hyj⟩ : ∃ y, ss[j] = y := ⟨_, rfl⟩
              rw [show ss.getD k (0, 0) = x from by rw [← hxk]; simp [List.getElem?_eq_getElem hkl]] at d0 d1
              rw [show ss.getD j (0, 0) = y from by rw [← hyj]; simp [List.getElem?_eq_getElem hjl]] at c0 c1
              have HXY := Lib.hid (And.intro hxk hyj)
              clear hx hxk hyj
              have heq := eqSpot x y
              by_cases hxy : x = y
              · obtain rfl : ans = 15 := by
                  rw [HAN.out, if_neg]
                  intro hnd
                  exact List.pairwise_iff_getElem.1 hnd j k hjl hkl hjk (HXY.out.2.trans (hxy.symm.trans HXY.out.1.symm))
                subst hxy
                rw [show decide (x = x) = true from by simp] at heq
                clear HXY
                go_wp2
                go_quiet (fail)
                go_wp2
                go_ret
                exact ⟨rfl, E0.out.trans (ext_drewN hB2.out _)⟩
              · rw [show decide (x = y) = false from by simp [hxy]] at heq
                have hN1 : Hid (∀ m, (hm : m < j + 1) → (hl : m < ss.length) → ss[k] ≠ ss[m]) := Lib.hid fun m hm hl => by
                  by_cases e : m = j
                  · subst e
                    rw [HXY.out.1, HXY.out.2]
                    exact hxy
                  · exact hN.out m (by omega) hl
                clear HXY hxy hN
                go_wp2
                go_quiet (fail)
                go_wp2
                go_roundw
                case measure => simp [intOf]; omega
                case rel => exact ⟨j + 1, by omega, by go_num, Lib.hid (ext_drewN hB2.out _), hN1⟩
            · have hjkz : ¬ (j : Int) < (k : Int) := by omega
              have hjk2 : j = k := by omega
              have hA1 : Hid ((ss.take (k + 1)).Nodup) := Lib.hid (nodup_succ ss hkl hA.out fun m hm => hN.out m (by omega) (by omega))
              clear hx hN hA
              go_wp2
              go_roundw
              case measure => simp [intOf]; omega
              case rel => exact ⟨k + 1, by omega, by go_num, hB2, hA1⟩
        · have hltz : ¬ (k : Int) < (n : Int) := by omega
          have hkn : k = n := by omega
          have HAC : Hid (ans = if ds.all (dropOk ss.length) then 0 else 16) := Lib.hid (by
            have := hA.out
            rw [hkn, HNS.out, List.take_length] at this
            rw [HAN.out, if_pos this])
          clear HAN hA hx
          go_wp2
          clear q0 q1 q2 hltz hlt hk
          have EC := hB
          clear hB
          go_loopw [6, 7] (fun i _ wr => ∃ k : Nat, k ≤ n' ∧ i = .int .i64 k ∧ Hid (Ext w0 wr) ∧ Hid ((ds.take k).all (dropOk ss.length) = true)) (fun i _ _ => n' - (intOf i).toNat)
          case atStart => exact ⟨0, Nat.zero_le _, rfl, EC, Lib.hid rfl⟩
          case round =>
            obtain ⟨k, hk, rfl, hB, hA⟩ := hrel
            have hx := H0.out.ext hB.out
            obtain ⟨q0, q1, q2⟩ := hx.cells
            by_cases hlt : k < n'
            · have hltz : (k : Int) < (n' : Int) := by omega
              have hkl : k < ds.length := by rw [← HND.out]; exact hlt
              obtain ⟨b, off, rfl, d0, d1, d2⟩ := hx.drop hlt
              obtain ⟨p, hp⟩ : ∃ p, ds.getD k (0, 0, 0) = p := ⟨_, rfl⟩
              have hp2 : ds.getD k p = p := by rw [← hp]; simp [List.getElem?_eq_getElem hkl]
              rw [hp] at d0 d1 d2
              obtain ⟨S, Lo, Hi⟩ := p
              simp only at d0 d1 d2
              have HP := Lib.hid hp2
              have fail16 : dropOk ss.length (S, Lo, Hi) = false → ans = 16 := fun h => by rw [HAC.out, if_neg (by rw [all_no (dropOk ss.length) ds hkl _ HP.out h]; simp)]
              have F16 := Lib.hid fail16
              have pass16 : dropOk ss.length (S, Lo, Hi) = true → (ds.take (k + 1)).all (dropOk ss.length) = true := fun h => take_all_succ _ _ hkl _ HP.out hA.out h
              have P16 := Lib.hid pass16
              have eA : Ext wr (wr.alloc (.cells #[.int .i64 S, .int .i64 Lo, .int .i64 Hi] 62)) := ext_alloc wr _
              obtain ⟨t0, t1, t2⟩ := (hx.ext eA).cells
              have cS := isSpot_ref (Wd := Wd) (A := A) (n := n) (c := c) (A' := some ⟨b, off, none⟩) (n' := n') (c' := c') S (wr.alloc (.cells #[.int .i64 S, .int .i64 Lo, .int .i64 Hi] 62))
              clear hx
              by_cases g1 : 0 ≤ S ∧ S < (n : Int)
              · rw [show (decide (0 ≤ S) && decide (S < (n : Int))) = true from by simp [g1]] at cS
                by_cases g2 : Lo < 1
                · obtain rfl : ans = 16 := F16.out (by simp [dropOk, inside]; omega)
                  go_wp2_with (go_at_call 60; refine cS.mono ?_; rintro e w2 ⟨rfl, hb2⟩; have hd2 := row_ext (row_last wr (.cells #[.int .i64 S, .int .i64 Lo, .int .i64 Hi] 62) _ rfl) hb2; have u1 := cell_of_row _ _ 1 _ _ _ hd2; have u2 := cell_of_row _ _ 2 _ _ _ hd2; simp at u1 u2; clear hd2)
                  go_ret
                  exact ⟨rfl, E0.out.trans (hB.out.trans (eA.trans hb2))⟩
                have g2' : decide (Lo < 1) = false := by simp [g2]
                by_cases g3 : Hi < Lo
                · obtain rfl : ans = 16 := F16.out (by simp [dropOk, inside]; omega)
                  go_wp2_with (go_at_call 60; refine cS.mono ?_; rintro e w2 ⟨rfl, hb2⟩; have hd2 := row_ext (row_last wr (.cells #[.int .i64 S, .int .i64 Lo, .int .i64 Hi] 62) _ rfl) hb2; have u1 := cell_of_row _ _ 1 _ _ _ hd2; have u2 := cell_of_row _ _ 2 _ _ _ hd2; simp at u1 u2; clear hd2)
                  go_ret
                  exact ⟨rfl, E0.out.trans (hB.out.trans (eA.trans hb2))⟩
                have g3' : decide (Hi < Lo) = false := by simp [g3]
                by_cases g4 : 10000 < Hi
                · obtain rfl : ans = 16 := F16.out (by simp [dropOk, inside]; omega)
                  go_wp2_with (go_at_call 60; refine cS.mono ?_; rintro e w2 ⟨rfl, hb2⟩; have hd2 := row_ext (row_last wr (.cells #[.int .i64 S, .int .i64 Lo, .int .i64 Hi] 62) _ rfl) hb2; have u1 := cell_of_row _ _ 1 _ _ _ hd2; have u2 := cell_of_row _ _ 2 _ _ _ hd2; simp at u1 u2; clear hd2)
                  go_ret
                  exact ⟨rfl, E0.out.trans (hB.out.trans (eA.trans hb2))⟩
                have g4' : decide (10000 < Hi) = false := by simp [g4]
                have hA1 := Lib.hid (P16.out (by have := HNS.out; simp [dropOk, inside]; omega))
                clear F16 P16 hA
                go_wp2_with (go_at_call 60; refine cS.mono ?_; rintro e w2 ⟨rfl, hb2⟩; have hd2 := row_ext (row_last wr (.cells #[.int .i64 S, .int .i64 Lo, .int .i64 Hi] 62) _ rfl) hb2; have u1 := cell_of_row _ _ 1 _ _ _ hd2; have u2 := cell_of_row _ _ 2 _ _ _ hd2; simp at u1 u2; clear hd2)
                go_roundw
                case measure => simp [intOf]; omega
                case rel => exact ⟨k + 1, by omega, by go_num, Lib.hid (hB.out.trans (eA.trans hb2)), hA1⟩
              · rw [show (decide (0 ≤ S) && decide (S < (n : Int))) = false from by simp; omega] at cS
                obtain rfl : ans = 16 := F16.out (by have := HNS.out; simp [dropOk]; omega)
                go_wp2_with (go_at_call 60; refine cS.mono ?_; rintro e w2 ⟨rfl, hb2⟩; have hd2 := row_ext (row_last wr (.cells #[.int .i64 S, .int .i64 Lo, .int .i64 Hi] 62) _ rfl) hb2; have u1 := cell_of_row _ _ 1 _ _ _ hd2; have u2 := cell_of_row _ _ 2 _ _ _ hd2; simp at u1 u2; clear hd2)
                go_ret
                exact ⟨rfl, E0.out.trans (hB.out.trans (eA.trans hb2))⟩
            · have hltz : ¬ (k : Int) < (n' : Int) := by omega
              have hkn : k = n' := by omega
              obtain rfl : ans = 0 := by
                have := hA.out
                rw [hkn, HND.out, List.take_length] at this
                rw [HAC.out, if_pos this]
              clear hx
              go_wp2
              go_ret
              exact ⟨rfl, E0.out.trans hB.out⟩
end
end Go.Proofs.Ytgdpgdnhhjclcaa

/- The reference's Size: what each of the operations of its last statement yields. -/
namespace Go.Proofs.Ytgdpgdnhhjclcaa
open Go.RowKit Go.Shelf

theorem made64_held {base : Nat} {xs : List Int} {w : World} {v : Value} (h : Made64 base xs w v) : ∃ B c, v = .slice B xs.length c ∧ Held w w.heap.size 1 encI B xs := by
  by_cases hx : xs = []
  · exact ⟨none, 0, by rw [h.2 hx, hx]; rfl, .inl hx⟩
  · obtain ⟨g, cap, e, hg, hc⟩ := owns_cells h.1 (fun e => hx (List.eq_nil_of_length_eq_zero e))
    refine ⟨_, cap, e, .inr ⟨g, 0, rfl, hg, fun j x hj i u hu => ?_⟩⟩
    match i, hu with
    | 0, hu =>
      simp only [encI, List.getElem?_cons_zero, Option.some.injEq] at hu
      subst hu
      rw [Nat.zero_add, Nat.mul_one, Nat.add_zero]
      exact hc j _ (List.getElem?_eq_some_iff.1 hj).1 (by rw [List.getElem?_map, hj]; rfl)

/-- A list of numbers in a slice. -/
def IntsAt (xs : List Int) (v : Value) (W : World) : Prop := ∃ B c, v = .slice B xs.length c ∧ Held W W.heap.size 1 encI B xs
theorem IntsAt.ext {xs : List Int} {v : Value} {W W' : World} (h : IntsAt xs v W) (e : Ext W W') : IntsAt xs v W' := by
  obtain ⟨B, c, rfl, hh⟩ := h
  exact ⟨B, c, rfl, hh.ext e⟩

theorem ends_bd {Wd : Int} {ss : List (Int × Int)} {ds : List (Int × Int × Int)} (h : Few Wd ss ds) (high : Bool) (k : Nat) : 0 ≤ (ds.map (endOf high)).getD k 0 ∧ (ds.map (endOf high)).getD k 0 ≤ 10000 := by
  by_cases hk : k < ds.length
  · have h1 := List.all_eq_true.1 h.drops ds[k] (List.getElem_mem hk)
    simp only [dropOk, inside, Bool.and_eq_true, decide_eq_true_eq, List.all_cons, List.all_nil] at h1
    have e : (ds.map (endOf high)).getD k 0 = endOf high ds[k] := by simp [List.getElem?_eq_getElem hk]
    rw [e]
    unfold endOf
    cases high <;> simp <;> omega
  · have e : (ds.map (endOf high)).getD k 0 = 0 := by simp [List.getElem?_eq_none (Nat.le_of_not_lt hk)]
    rw [e]
    omega

/-- What each operation of Size's last statement yields. -/
def sizeS (Wd : Int) (A : Option Addr) (n c : Nat) (A' : Option Addr) (n' c' : Nat) (ds : List (Int × Int × Int)) (i : Nat) (k : Nat) (v : Value) (W : World) : Prop :=
  match k with
  | 2 => IntsAt (ds.map (endOf false)) v W
  | 3 => v = .int .i64 (i : Int)
  | 4 => v = .int .i64 (sizes ds i).1
  | 7 => IntsAt (ds.map (endOf true)) v W
  | 8 => v = .int .i64 (i : Int)
  | 9 => v = .int .i64 (sizes ds i).2
  | 10 => v = .agg #[.int .i64 (sizes ds i).1, .int .i64 (sizes ds i).2]
  | _ => v = .agg #[.int .i64 Wd, .slice A n c, .slice A' n' c']
theorem sizeS_ext (Wd : Int) (A : Option Addr) (n c : Nat) (A' : Option Addr) (n' c' : Nat) (ds : List (Int × Int × Int)) (i : Nat) (k : Nat) (v : Value) (W W' : World) (h : sizeS Wd A n c A' n' c' ds i k v W) (e : Below W.heap.size W W') : sizeS Wd A n c A' n' c' ds i k v W' := by
  unfold sizeS at h ⊢
  split at h <;> first | exact h | exact IntsAt.ext h e
noncomputable def sizeReg : Array Oper := (Try.f18.body.bind (regionOf · 5)).getD #[]
def SizeOk (Wd : Int) (A : Option Addr) (n c : Nat) (A' : Option Addr) (n' c' : Nat) (ds : List (Int × Int × Int)) (i : Nat) (Q : Exit → Act → World → Prop) (a : Act) (W : World) (k : Nat) (o : Oper) : Prop :=
  (∀ j b, o.guard = some (j, b) → a.eval (.tmp (17 + j)) = .bool b) ∧ o.wp Try.prog a W (fun a'' W' => ∃ v, a'' = a.put o.dst v ∧ sizeS Wd A n c A' n' c' ds i k v W' ∧ Below W.heap.size W W') Q

section
variable {Wd : Int} {A : Option Addr} {n c : Nat} {A' : Option Addr} {n' c' : Nat} {ss : List (Int × Int)} {ds : List (Int × Int × Int)} {i p : Nat} {Q : Exit → Act → World → Prop} {a : Act} {V W : World} {o : Oper}

theorem size_op0 (ho : sizeReg[0]? = some o) (hB : Ext V W) (hx : BathAt V p Wd A n c A' n' c' ss ds) (o2 : a.eval (.tmp 2) = .pointer (some ⟨p, 0, none⟩)) (o1 : a.eval (.tmp 1) = .int .i64 (i : Int)) (h0 : bathErr Wd ss ds = 0) (haft : ∀ j, (o.after.any fun e => decide (e.on = j) && Region.binds .any e) = true → sizeS Wd A n c A' n' c' ds i j (a.eval (.tmp (17 + j))) W) : SizeOk Wd A n c A' n' c' ds i Q a W 0 o := by
  have hop := op_at ho (·.op) (x := .load 25 (.tmp 2)) (by kernel_rfl)
  have hgd := op_at ho (·.guard) (x := none) (by kernel_rfl)
  have hX := hx.ext hB
  obtain ⟨q0, q1, q2⟩ := hX.cells
  refine ⟨fun j b h => (by rw [hgd] at h; cases h), ?_⟩
  exact specs_value (R := sizeS Wd A n c A' n' c' ds i 0) (v := (.agg #[.int .i64 Wd, .slice A n c, .slice A' n' c'] : Value)) (by simp [execOp, hop, go_sem, ev o2, q0, q1, q2]) rfl (Ext.refl W)
theorem size_op1 (ho : sizeReg[1]? = some o) (hB : Ext V W) (hx : BathAt V p Wd A n c A' n' c' ss ds) (o2 : a.eval (.tmp 2) = .pointer (some ⟨p, 0, none⟩)) (o1 : a.eval (.tmp 1) = .int .i64 (i : Int)) (h0 : bathErr Wd ss ds = 0) (haft : ∀ j, (o.after.any fun e => decide (e.on = j) && Region.binds .any e) = true → sizeS Wd A n c A' n' c' ds i j (a.eval (.tmp (17 + j))) W) : SizeOk Wd A n c A' n' c' ds i Q a W 1 o := by
  have hop := op_at ho (·.op) (x := .load 25 (.tmp 2)) (by kernel_rfl)
  have hgd := op_at ho (·.guard) (x := none) (by kernel_rfl)
  have hX := hx.ext hB
  obtain ⟨q0, q1, q2⟩ := hX.cells
  refine ⟨fun j b h => (by rw [hgd] at h; cases h), ?_⟩
  exact specs_value (R := sizeS Wd A n c A' n' c' ds i 1) (v := (.agg #[.int .i64 Wd, .slice A n c, .slice A' n' c'] : Value)) (by simp [execOp, hop, go_sem, ev o2, q0, q1, q2]) rfl (Ext.refl W)
theorem size_op2 (ho : sizeReg[2]? = some o) (hB : Ext V W) (hx : BathAt V p Wd A n c A' n' c' ss ds) (o2 : a.eval (.tmp 2) = .pointer (some ⟨p, 0, none⟩)) (o1 : a.eval (.tmp 1) = .int .i64 (i : Int)) (h0 : bathErr Wd ss ds = 0) (haft : ∀ j, (o.after.any fun e => decide (e.on = j) && Region.binds .any e) = true → sizeS Wd A n c A' n' c' ds i j (a.eval (.tmp (17 + j))) W) : SizeOk Wd A n c A' n' c' ds i Q a W 2 o := by
  have hop := op_at ho (·.op) (x := .call { callee := .value (.func 61), args := #[.tmp 18, .const (.bool false)], argTypes := #[25, 4] }) (by kernel_rfl)
  have hgd := op_at ho (·.guard) (x := none) (by kernel_rfl)
  have hX := hx.ext hB
  have e1 : a.eval (.tmp 18) = (.agg #[.int .i64 Wd, .slice A n c, .slice A' n' c'] : Value) := haft 1 (op_at ho (fun o => o.after.any fun e => decide (e.on = 1) && Region.binds .any e) (x := true) (by kernel_rfl))
  refine ⟨fun j b h => (by rw [hgd] at h; cases h), ?_⟩
  have hc := ends_ref (Wd := Wd) false hX.bath (by have := (bath_ok h0).2.1.2; have := hX.bath.nds; omega)
  exact specs_call (R := sizeS Wd A n c A' n' c' ds i 2) (f := 61) (args := #[(.agg #[.int .i64 Wd, .slice A n c, .slice A' n' c'] : Value), .bool false]) (by simp [execOp, hop, go_sem, ev e1]) (hc.mono fun e w' h => by
    obtain ⟨v, rfl, hM, hE⟩ := h
    exact ⟨v, rfl, made64_held hM, hE⟩)
theorem size_op3 (ho : sizeReg[3]? = some o) (hB : Ext V W) (hx : BathAt V p Wd A n c A' n' c' ss ds) (o2 : a.eval (.tmp 2) = .pointer (some ⟨p, 0, none⟩)) (o1 : a.eval (.tmp 1) = .int .i64 (i : Int)) (h0 : bathErr Wd ss ds = 0) (haft : ∀ j, (o.after.any fun e => decide (e.on = j) && Region.binds .any e) = true → sizeS Wd A n c A' n' c' ds i j (a.eval (.tmp (17 + j))) W) : SizeOk Wd A n c A' n' c' ds i Q a W 3 o := by
  have hop := op_at ho (·.op) (x := .move (.tmp 1)) (by kernel_rfl)
  have hgd := op_at ho (·.guard) (x := none) (by kernel_rfl)
  have hX := hx.ext hB
  refine ⟨fun j b h => (by rw [hgd] at h; cases h), ?_⟩
  exact specs_value (R := sizeS Wd A n c A' n' c' ds i 3) (v := .int .i64 (i : Int)) (by simp [execOp, hop, go_sem, ev o1]) rfl (Ext.refl W)
theorem size_op4 (ho : sizeReg[4]? = some o) (hB : Ext V W) (hx : BathAt V p Wd A n c A' n' c' ss ds) (o2 : a.eval (.tmp 2) = .pointer (some ⟨p, 0, none⟩)) (o1 : a.eval (.tmp 1) = .int .i64 (i : Int)) (h0 : bathErr Wd ss ds = 0) (haft : ∀ j, (o.after.any fun e => decide (e.on = j) && Region.binds .any e) = true → sizeS Wd A n c A' n' c' ds i j (a.eval (.tmp (17 + j))) W) : SizeOk Wd A n c A' n' c' ds i Q a W 4 o := by
  have hop := op_at ho (·.op) (x := .call { callee := .value (.func 45), args := #[.tmp 17, .tmp 19, .tmp 20], argTypes := #[25, 55, 3] }) (by kernel_rfl)
  have hgd := op_at ho (·.guard) (x := none) (by kernel_rfl)
  have hX := hx.ext hB
  have e0 : a.eval (.tmp 17) = (.agg #[.int .i64 Wd, .slice A n c, .slice A' n' c'] : Value) := haft 0 (op_at ho (fun o => o.after.any fun e => decide (e.on = 0) && Region.binds .any e) (x := true) (by kernel_rfl))
  obtain ⟨T, cT, e2, hT⟩ := haft 2 (op_at ho (fun o => o.after.any fun e => decide (e.on = 2) && Region.binds .any e) (x := true) (by kernel_rfl))
  rw [show 17 + 2 = 19 from rfl] at e2
  have e3 : a.eval (.tmp 20) = .int .i64 (i : Int) := haft 3 (op_at ho (fun o => o.after.any fun e => decide (e.on = 3) && Region.binds .any e) (x := true) (by kernel_rfl))
  refine ⟨fun j b h => (by rw [hgd] at h; cases h), ?_⟩
  have hc := sizeOf_ref (Wd := Wd) T _ cT (ds.map (endOf false)) (i : Int) hX.bath (by have := (bath_ok h0).2.1.2; have := hX.bath.nds; omega) rfl (by rw [List.length_map, hX.bath.nds]; exact Nat.le_refl _) (by rw [List.length_map]; have := (bath_ok h0).2.1.2; omega) hT (ends_bd (bath_few h0) false)
  rw [hX.bath.nds, sumAt_ends] at hc
  exact specs_call (R := sizeS Wd A n c A' n' c' ds i 4) (f := 45) (args := #[(.agg #[.int .i64 Wd, .slice A n c, .slice A' n' c'] : Value), .slice T (ds.map (endOf false)).length cT, .int .i64 (i : Int)]) (by simp [execOp, hop, go_sem, ev e0, ev e2, ev e3]) (by rw [hX.bath.nds]; exact hc.mono fun e w' h => ⟨_, h.1, rfl, h.2⟩)
theorem size_op5 (ho : sizeReg[5]? = some o) (hB : Ext V W) (hx : BathAt V p Wd A n c A' n' c' ss ds) (o2 : a.eval (.tmp 2) = .pointer (some ⟨p, 0, none⟩)) (o1 : a.eval (.tmp 1) = .int .i64 (i : Int)) (h0 : bathErr Wd ss ds = 0) (haft : ∀ j, (o.after.any fun e => decide (e.on = j) && Region.binds .any e) = true → sizeS Wd A n c A' n' c' ds i j (a.eval (.tmp (17 + j))) W) : SizeOk Wd A n c A' n' c' ds i Q a W 5 o := by
  have hop := op_at ho (·.op) (x := .load 25 (.tmp 2)) (by kernel_rfl)
  have hgd := op_at ho (·.guard) (x := none) (by kernel_rfl)
  have hX := hx.ext hB
  obtain ⟨q0, q1, q2⟩ := hX.cells
  refine ⟨fun j b h => (by rw [hgd] at h; cases h), ?_⟩
  exact specs_value (R := sizeS Wd A n c A' n' c' ds i 5) (v := (.agg #[.int .i64 Wd, .slice A n c, .slice A' n' c'] : Value)) (by simp [execOp, hop, go_sem, ev o2, q0, q1, q2]) rfl (Ext.refl W)
theorem size_op6 (ho : sizeReg[6]? = some o) (hB : Ext V W) (hx : BathAt V p Wd A n c A' n' c' ss ds) (o2 : a.eval (.tmp 2) = .pointer (some ⟨p, 0, none⟩)) (o1 : a.eval (.tmp 1) = .int .i64 (i : Int)) (h0 : bathErr Wd ss ds = 0) (haft : ∀ j, (o.after.any fun e => decide (e.on = j) && Region.binds .any e) = true → sizeS Wd A n c A' n' c' ds i j (a.eval (.tmp (17 + j))) W) : SizeOk Wd A n c A' n' c' ds i Q a W 6 o := by
  have hop := op_at ho (·.op) (x := .load 25 (.tmp 2)) (by kernel_rfl)
  have hgd := op_at ho (·.guard) (x := none) (by kernel_rfl)
  have hX := hx.ext hB
  obtain ⟨q0, q1, q2⟩ := hX.cells
  refine ⟨fun j b h => (by rw [hgd] at h; cases h), ?_⟩
  exact specs_value (R := sizeS Wd A n c A' n' c' ds i 6) (v := (.agg #[.int .i64 Wd, .slice A n c, .slice A' n' c'] : Value)) (by simp [execOp, hop, go_sem, ev o2, q0, q1, q2]) rfl (Ext.refl W)
theorem size_op7 (ho : sizeReg[7]? = some o) (hB : Ext V W) (hx : BathAt V p Wd A n c A' n' c' ss ds) (o2 : a.eval (.tmp 2) = .pointer (some ⟨p, 0, none⟩)) (o1 : a.eval (.tmp 1) = .int .i64 (i : Int)) (h0 : bathErr Wd ss ds = 0) (haft : ∀ j, (o.after.any fun e => decide (e.on = j) && Region.binds .any e) = true → sizeS Wd A n c A' n' c' ds i j (a.eval (.tmp (17 + j))) W) : SizeOk Wd A n c A' n' c' ds i Q a W 7 o := by
  have hop := op_at ho (·.op) (x := .call { callee := .value (.func 61), args := #[.tmp 23, .const (.bool true)], argTypes := #[25, 4] }) (by kernel_rfl)
  have hgd := op_at ho (·.guard) (x := none) (by kernel_rfl)
  have hX := hx.ext hB
  have e6 : a.eval (.tmp 23) = (.agg #[.int .i64 Wd, .slice A n c, .slice A' n' c'] : Value) := haft 6 (op_at ho (fun o => o.after.any fun e => decide (e.on = 6) && Region.binds .any e) (x := true) (by kernel_rfl))
  refine ⟨fun j b h => (by rw [hgd] at h; cases h), ?_⟩
  have hc := ends_ref (Wd := Wd) true hX.bath (by have := (bath_ok h0).2.1.2; have := hX.bath.nds; omega)
  exact specs_call (R := sizeS Wd A n c A' n' c' ds i 7) (f := 61) (args := #[(.agg #[.int .i64 Wd, .slice A n c, .slice A' n' c'] : Value), .bool true]) (by simp [execOp, hop, go_sem, ev e6]) (hc.mono fun e w' h => by
    obtain ⟨v, rfl, hM, hE⟩ := h
    exact ⟨v, rfl, made64_held hM, hE⟩)
theorem size_op8 (ho : sizeReg[8]? = some o) (hB : Ext V W) (hx : BathAt V p Wd A n c A' n' c' ss ds) (o2 : a.eval (.tmp 2) = .pointer (some ⟨p, 0, none⟩)) (o1 : a.eval (.tmp 1) = .int .i64 (i : Int)) (h0 : bathErr Wd ss ds = 0) (haft : ∀ j, (o.after.any fun e => decide (e.on = j) && Region.binds .any e) = true → sizeS Wd A n c A' n' c' ds i j (a.eval (.tmp (17 + j))) W) : SizeOk Wd A n c A' n' c' ds i Q a W 8 o := by
  have hop := op_at ho (·.op) (x := .move (.tmp 1)) (by kernel_rfl)
  have hgd := op_at ho (·.guard) (x := none) (by kernel_rfl)
  have hX := hx.ext hB
  refine ⟨fun j b h => (by rw [hgd] at h; cases h), ?_⟩
  exact specs_value (R := sizeS Wd A n c A' n' c' ds i 8) (v := .int .i64 (i : Int)) (by simp [execOp, hop, go_sem, ev o1]) rfl (Ext.refl W)
theorem size_op9 (ho : sizeReg[9]? = some o) (hB : Ext V W) (hx : BathAt V p Wd A n c A' n' c' ss ds) (o2 : a.eval (.tmp 2) = .pointer (some ⟨p, 0, none⟩)) (o1 : a.eval (.tmp 1) = .int .i64 (i : Int)) (h0 : bathErr Wd ss ds = 0) (haft : ∀ j, (o.after.any fun e => decide (e.on = j) && Region.binds .any e) = true → sizeS Wd A n c A' n' c' ds i j (a.eval (.tmp (17 + j))) W) : SizeOk Wd A n c A' n' c' ds i Q a W 9 o := by
  have hop := op_at ho (·.op) (x := .call { callee := .value (.func 45), args := #[.tmp 22, .tmp 24, .tmp 25], argTypes := #[25, 55, 3] }) (by kernel_rfl)
  have hgd := op_at ho (·.guard) (x := none) (by kernel_rfl)
  have hX := hx.ext hB
  have e5 : a.eval (.tmp 22) = (.agg #[.int .i64 Wd, .slice A n c, .slice A' n' c'] : Value) := haft 5 (op_at ho (fun o => o.after.any fun e => decide (e.on = 5) && Region.binds .any e) (x := true) (by kernel_rfl))
  obtain ⟨T, cT, e7, hT⟩ := haft 7 (op_at ho (fun o => o.after.any fun e => decide (e.on = 7) && Region.binds .any e) (x := true) (by kernel_rfl))
  rw [show 17 + 7 = 24 from rfl] at e7
  have e8 : a.eval (.tmp 25) = .int .i64 (i : Int) := haft 8 (op_at ho (fun o => o.after.any fun e => decide (e.on = 8) && Region.binds .any e) (x := true) (by kernel_rfl))
  refine ⟨fun j b h => (by rw [hgd] at h; cases h), ?_⟩
  have hc := sizeOf_ref (Wd := Wd) T _ cT (ds.map (endOf true)) (i : Int) hX.bath (by have := (bath_ok h0).2.1.2; have := hX.bath.nds; omega) rfl (by rw [List.length_map, hX.bath.nds]; exact Nat.le_refl _) (by rw [List.length_map]; have := (bath_ok h0).2.1.2; omega) hT (ends_bd (bath_few h0) true)
  rw [hX.bath.nds, sumAt_ends] at hc
  exact specs_call (R := sizeS Wd A n c A' n' c' ds i 9) (f := 45) (args := #[(.agg #[.int .i64 Wd, .slice A n c, .slice A' n' c'] : Value), .slice T (ds.map (endOf true)).length cT, .int .i64 (i : Int)]) (by simp [execOp, hop, go_sem, ev e5, ev e7, ev e8]) (by rw [hX.bath.nds]; exact hc.mono fun e w' h => ⟨_, h.1, rfl, h.2⟩)
theorem size_op10 (ho : sizeReg[10]? = some o) (hB : Ext V W) (hx : BathAt V p Wd A n c A' n' c' ss ds) (o2 : a.eval (.tmp 2) = .pointer (some ⟨p, 0, none⟩)) (o1 : a.eval (.tmp 1) = .int .i64 (i : Int)) (h0 : bathErr Wd ss ds = 0) (haft : ∀ j, (o.after.any fun e => decide (e.on = j) && Region.binds .any e) = true → sizeS Wd A n c A' n' c' ds i j (a.eval (.tmp (17 + j))) W) : SizeOk Wd A n c A' n' c' ds i Q a W 10 o := by
  have hop := op_at ho (·.op) (x := .build 29 #[(0, .tmp 21), (1, .tmp 26)]) (by kernel_rfl)
  have hgd := op_at ho (·.guard) (x := none) (by kernel_rfl)
  have hX := hx.ext hB
  have e4 : a.eval (.tmp 21) = .int .i64 (sizes ds i).1 := haft 4 (op_at ho (fun o => o.after.any fun e => decide (e.on = 4) && Region.binds .any e) (x := true) (by kernel_rfl))
  have e9 : a.eval (.tmp 26) = .int .i64 (sizes ds i).2 := haft 9 (op_at ho (fun o => o.after.any fun e => decide (e.on = 9) && Region.binds .any e) (x := true) (by kernel_rfl))
  refine ⟨fun j b h => (by rw [hgd] at h; cases h), ?_⟩
  exact specs_value (R := sizeS Wd A n c A' n' c' ds i 10) (v := .agg #[.int .i64 (sizes ds i).1, .int .i64 (sizes ds i).2]) (by simp [execOp, hop, go_sem, ev e4, ev e9]) rfl (Ext.refl W)
end
end Go.Proofs.Ytgdpgdnhhjclcaa

/- The reference's Size. -/
namespace Go.Proofs.Ytgdpgdnhhjclcaa
open Go.RowKit Go.Shelf

theorem drop_two {ops : Array Oper} {k : Nat} (h : ops.size = k + 2) : ∃ o o', ops.toList.drop k = [o, o'] ∧ ops[k]? = some o ∧ ops[k + 1]? = some o' := by
  have h1 : k < ops.size := by omega
  have h2 : k + 1 < ops.size := by omega
  refine ⟨ops[k], ops[k + 1], ?_, Array.getElem?_eq_getElem h1, Array.getElem?_eq_getElem h2⟩
  rw [List.drop_eq_getElem_cons (by simpa using h1), List.drop_eq_getElem_cons (by simpa using h2), List.drop_eq_nil_of_le (by simp; omega)]
  simp
theorem drop_one {ops : Array Oper} {k : Nat} (h : ops.size = k + 1) : ∃ o, ops.toList.drop k = [o] ∧ ops[k]? = some o := by
  have h1 : k < ops.size := by omega
  refine ⟨ops[k], ?_, Array.getElem?_eq_getElem h1⟩
  rw [List.drop_eq_getElem_cons (by simpa using h1), List.drop_eq_nil_of_le (by simp; omega)]
  simp
theorem wpList_value {P : Program} {ops : Array Oper} {Q : Exit → Act → World → Prop} {rest : List Oper} {o : Oper} {a : Act} {w w' : World} {v : Value} (hgd : o.guard = none) (hr : (execOp a.eval o).run P w = .ok (.value v) w')
    (h : wpList P ops Q rest (a.put o.dst v) w') : wpList P ops Q (o :: rest) a w := by
  simp only [wpList]
  rw [if_pos (by simp [Region.wanted, hgd])]
  left
  unfold Oper.wp
  rw [hr]
  exact h

section
variable {w : World} {Wd : Int} {A : Option Addr} {n c : Nat} {A' : Option Addr} {n' c' : Nat} {ss : List (Int × Int)} {ds : List (Int × Int × Int)}

set_option maxRecDepth 100000 in
set_option maxHeartbeats 2000000 in
theorem size_ref (x : Int) (hb : IsBath w w.heap.size A n c A' n' c' ss ds) :
    Calls Try.prog 18 #[.agg #[.int .i64 Wd, .slice A n c, .slice A' n' c'], .int .i64 x] w fun e w' => e = .returned (.tuple #[.agg #[.int .i64 (sizeAns Wd ss ds x).1.1, .int .i64 (sizeAns Wd ss ds x).1.2], .int .i64 (sizeAns Wd ss ds x).2]) ∧ Ext w w' := by
  have cB : ∀ W : World, IsBath W W.heap.size A n c A' n' c' ss ds → _ := fun W h => checkBath_ref (Wd := Wd) h
  have hX0 : BathAt ((w.alloc (.cells #[.int .i64 Wd, .slice A n c, .slice A' n' c'] 25)).alloc (.cells #[.int .i64 0, .int .i64 0] 29)) w.heap.size Wd A n c A' n' c' ss ds := (BathAt.new hb).ext (ext_alloc _ _)
  have hE0 : Ext w ((w.alloc (.cells #[.int .i64 Wd, .slice A n c, .slice A' n' c'] 25)).alloc (.cells #[.int .i64 0, .int .i64 0] 29)) := (ext_alloc w _).trans (ext_alloc _ _)
  have hR0 : ((w.alloc (.cells #[.int .i64 Wd, .slice A n c, .slice A' n' c'] 25)).alloc (.cells #[.int .i64 0, .int .i64 0] 29)).heap[w.heap.size + 1]? = some (.cells #[.int .i64 0, .int .i64 0] 29 (0, 0)) := row_last _ _ _ (by simp)
  by_cases he : bathErr Wd ss ds = 0
  · have hfew := bath_ok he
    rw [he] at cB
    by_cases hsp : 0 ≤ x ∧ x < (n : Int)
    · obtain ⟨i, rfl⟩ := Int.eq_ofNat_of_zero_le hsp.1
      have ha : sizeAns Wd ss ds (i : Int) = (sizes ds i, 0) := by
        unfold sizeAns
        rw [if_pos he, if_pos (by rw [← hb.nss]; simpa using hsp)]
        rfl
      rw [ha]
      clear ha
      have cS := fun W : World => isSpot_ref (Wd := Wd) (A := A) (n := n) (c := c) (A' := A') (n' := n') (c' := c') (i : Int) W
      rw [show (decide (0 ≤ (i : Int)) && decide ((i : Int) < (n : Int))) = true from by simpa using hsp] at cS
      go_enter Try.func18, Try.ntmps18
      go_wp2_with fail
      refine (cB _ hX0.bath).mono ?_
      rintro e w1 ⟨rfl, hb1⟩
      have hX1 := hX0.ext hb1
      have hE1 := hE0.trans hb1
      have hR1 := row_ext hR0 hb1
      clear hX0 hE0 hR0 hb1
      obtain ⟨q0, q1, q2⟩ := hX1.cells
      go_wp2_with fail
      refine (cS _).mono ?_
      rintro e w2 ⟨rfl, hb2⟩
      have hX2 := hX1.ext hb2
      have hE2 := Lib.hid (hE1.trans hb2)
      have hR2 := Lib.hid (row_ext hR1 hb2)
      have HE := Lib.hid he
      clear hX1 hE1 hR1 hb2 q0 q1 q2 cB cS he hsp hfew
      have HX := Lib.hid hX2
      clear hX2 hb
      go_upto_region 5 with fail
      refine wp_region_specs_tail (ops := sizeReg) 11 (sizeS Wd A n c A' n' c' ds i) (Ext w2) (by kernel_rfl) (by kernel_rfl) (by kernel_rfl) ⟨rfl, rfl, rfl, Nat.le_refl _, fun _ _ => rfl⟩ (fun _ _ h e => h.trans e) (sizeS_ext Wd A n c A' n' c' ds i) (fun j => 17 + j) (by kernel_rfl) ?_ ?_
      · intro k o hk ho a W hB hsz hold haft
        match k, hk with
        | 0, _ => exact size_op0 ho hB HX.out (hold 2 (by kernel_rfl)) (hold 1 (by kernel_rfl)) HE.out haft
        | 1, _ => exact size_op1 ho hB HX.out (hold 2 (by kernel_rfl)) (hold 1 (by kernel_rfl)) HE.out haft
        | 2, _ => exact size_op2 ho hB HX.out (hold 2 (by kernel_rfl)) (hold 1 (by kernel_rfl)) HE.out haft
        | 3, _ => exact size_op3 ho hB HX.out (hold 2 (by kernel_rfl)) (hold 1 (by kernel_rfl)) HE.out haft
        | 4, _ => exact size_op4 ho hB HX.out (hold 2 (by kernel_rfl)) (hold 1 (by kernel_rfl)) HE.out haft
        | 5, _ => exact size_op5 ho hB HX.out (hold 2 (by kernel_rfl)) (hold 1 (by kernel_rfl)) HE.out haft
        | 6, _ => exact size_op6 ho hB HX.out (hold 2 (by kernel_rfl)) (hold 1 (by kernel_rfl)) HE.out haft
        | 7, _ => exact size_op7 ho hB HX.out (hold 2 (by kernel_rfl)) (hold 1 (by kernel_rfl)) HE.out haft
        | 8, _ => exact size_op8 ho hB HX.out (hold 2 (by kernel_rfl)) (hold 1 (by kernel_rfl)) HE.out haft
        | 9, _ => exact size_op9 ho hB HX.out (hold 2 (by kernel_rfl)) (hold 1 (by kernel_rfl)) HE.out haft
        | 10, _ => exact size_op10 ho hB HX.out (hold 2 (by kernel_rfl)) (hold 1 (by kernel_rfl)) HE.out haft
        | m + 11, h => exact absurd h (by omega)
      · intro a W hB hsz hdf hold hS
        have e10 : a.eval (.tmp 27) = .agg #[.int .i64 (sizes ds i).1, .int .i64 (sizes ds i).2] := hS 10 (by omega)
        have e4 : a.eval (.tmp 4) = .pointer (some ⟨w.heap.size + 1, 0, none⟩) := (hold 4 (by kernel_rfl)).trans rfl
        have hsz' : a.tmps.size = 28 := hsz
        obtain ⟨o11, o12, hdr, h11, h12⟩ := drop_two (ops := sizeReg) (k := 11) (by kernel_rfl)
        rw [hdr]
        have hr := row_ext hR2.out hB
        refine wpList_store_row (op_at h11 (·.guard) (x := none) (by kernel_rfl)) 29 (.tmp 4) (.tmp 27) (op_at h11 (·.op) (by kernel_rfl)) (w.heap.size + 1) _ e4 e10 29 _ hr (by kernel_rfl) rfl (by simp [Value.oneCell']) ?_
        rw [show o11.dst = none from op_at h11 (·.dst) (by kernel_rfl)]
        refine wpList_value (v := .int .i64 0) (w' := W.setRow (w.heap.size + 1) #[.int .i64 (sizes ds i).1, .int .i64 (sizes ds i).2]) (op_at h12 (·.guard) (x := none) (by kernel_rfl)) (by simp [execOp, show o12.op = .assign (.const (.int .i64 0)) from op_at h12 (·.op) (by kernel_rfl), go_sem]) ?_
        rw [show o12.dst = some 5 from op_at h12 (·.dst) (by kernel_rfl)]
        obtain ⟨tmps, dfs⟩ := a
        obtain rfl : dfs = [] := hdf
        simp only [wpList, Exit.then]
        go_at_K
        go_wp2
        have hp : tmps.getD 4 undef = .pointer (some ⟨w.heap.size + 1, 0, none⟩) := e4
        have h5 : 5 < tmps.size := by rw [show tmps.size = 28 from hsz']; omega
        refine bodyPost_ret (v := .tuple #[.agg #[.int .i64 (sizes ds i).1, .int .i64 (sizes ds i).2], .int .i64 0]) (results_rng_tmp rfl _ _ (w.heap.size + 1) _ _ _ ?_ ?_ (row_setRow _ _ _ _ _ _ hr)) rfl ⟨rfl, below_setRow (hE2.out.trans hB) (by omega) _⟩
        · simpa [Act.put] using hp
        · simp [Act.put, h5]
    · have ha : sizeAns Wd ss ds x = ((0, 0), 2) := by
        unfold sizeAns
        rw [if_pos he, if_neg (by rw [← hb.nss]; simpa using hsp)]
      rw [ha]
      clear ha
      have cS := fun W : World => isSpot_ref (Wd := Wd) (A := A) (n := n) (c := c) (A' := A') (n' := n') (c' := c') x W
      rw [show (decide (0 ≤ x) && decide (x < (n : Int))) = false from by simp; omega] at cS
      go_enter Try.func18, Try.ntmps18
      go_wp2_with fail
      refine (cB _ hX0.bath).mono ?_
      rintro e w1 ⟨rfl, hb1⟩
      have hX1 := hX0.ext hb1
      have hE1 := hE0.trans hb1
      have hR1 := row_ext hR0 hb1
      clear hX0 hE0 hR0 hb1
      obtain ⟨q0, q1, q2⟩ := hX1.cells
      go_wp2_with fail
      refine (cS _).mono ?_
      rintro e w2 ⟨rfl, hb2⟩
      have hE2 := hE1.trans hb2
      have hR2 := Lib.hid (row_ext hR1 hb2)
      clear hX1 hE1 hR1 hb2 q0 q1 q2 cB cS
      go_wp2_with (refine wpList_store29 (.tmp 4) (.tmp 16) rfl rfl (w.heap.size + 1) rfl 0 0 0 0 rfl hR2.out ?_)
      refine bodyPost_ret (v := .tuple #[.agg #[.int .i64 0, .int .i64 0], .int .i64 2]) (results_rng_tmp rfl _ _ (w.heap.size + 1) 0 0 _ rfl rfl (row_setRow _ _ _ _ _ _ hR2.out)) rfl ⟨rfl, below_setRow hE2 (by omega) _⟩
  · have ha : sizeAns Wd ss ds x = ((0, 0), bathErr Wd ss ds) := by unfold sizeAns; rw [if_neg he]
    rw [ha]
    clear ha
    generalize bathErr Wd ss ds = r at he cB ⊢
    have hne2 : (r != 0) = true := by simpa using he
    go_enter Try.func18, Try.ntmps18
    go_wp2_with fail
    refine (cB _ hX0.bath).mono ?_
    rintro e w1 ⟨rfl, hb1⟩
    have hX1 := hX0.ext hb1
    have hE1 := hE0.trans hb1
    have hR1 := row_ext hR0 hb1
    clear hX0 hE0 hR0 hb1
    obtain ⟨q0, q1, q2⟩ := hX1.cells
    go_wp2_with fail
    refine (cB _ hX1.bath).mono ?_
    rintro e w2 ⟨rfl, hb2⟩
    have hE2 := hE1.trans hb2
    have hR2 := Lib.hid (row_ext hR1 hb2)
    clear hX1 hE1 hR1 hb2 q0 q1 q2 cB
    go_wp2_with (refine wpList_store29 (.tmp 4) (.tmp 9) rfl rfl (w.heap.size + 1) rfl 0 0 0 0 rfl hR2.out ?_)
    refine bodyPost_ret (v := .tuple #[.agg #[.int .i64 0, .int .i64 0], .int .i64 r]) (results_rng_tmp rfl _ _ (w.heap.size + 1) 0 0 _ rfl rfl (row_setRow _ _ _ _ _ _ hR2.out)) rfl ⟨rfl, below_setRow hE2 (by omega) _⟩
end
end Go.Proofs.Ytgdpgdnhhjclcaa

/- The same with a tail, where some operations bear edges that bind in other modes alone; and what an activation is when all of its slots are known. -/
namespace Go.Proofs.Ytgdpgdnhhjclcaa
open Go.RowKit

/-- Each of the first m operations has a slot of its own below n, and waits for earlier ones alone. -/
def slotsFr (ops : Array Oper) (m n : Nat) : Bool :=
  decide (m ≤ ops.size) && (List.range m).all fun i => match ops[i]? with
    | some o => (match o.dst with | some d => decide (d < n) | none => false) && o.after.toList.all (fun e => !Region.binds .any e || decide (e.on < i)) && (match o.guard with | some g => decide (g.1 < i) | none => true) && (List.range i).all fun j => decide (slot ops j ≠ slot ops i)
    | none => false
/-- Each of the others waits for all before it. -/
def tailF (ops : Array Oper) (m : Nat) : Bool :=
  (List.range ops.size).all fun i => decide (i < m) || match ops[i]? with
    | some o => ((List.range i).all fun j => o.after.any fun e => decide (e.on = j) && Region.binds .any e) && o.after.toList.all fun e => !Region.binds .any e || decide (e.on < i)
    | none => false
theorem slotsFr_spec {ops : Array Oper} {m n : Nat} (h : slotsFr ops m n = true) : m ≤ ops.size ∧
    (∀ i o, i < m → ops[i]? = some o → o.dst = some (slot ops i) ∧ slot ops i < n ∧ (∀ e ∈ o.after, Region.binds .any e = true → e.on < i) ∧ ∀ g, o.guard = some g → g.1 < i) ∧ ∀ i j, i < m → j < m → slot ops i = slot ops j → i = j := by
  simp only [slotsFr, Bool.and_eq_true, decide_eq_true_eq] at h
  obtain ⟨hm, h⟩ := h
  have key : ∀ i o, i < m → ops[i]? = some o → (o.dst = some (slot ops i) ∧ slot ops i < n ∧ (∀ e ∈ o.after, Region.binds .any e = true → e.on < i) ∧ ∀ g, o.guard = some g → g.1 < i) ∧ ∀ j, j < i → slot ops j ≠ slot ops i := by
    intro i o him ho
    have h1 := List.all_eq_true.1 h i (List.mem_range.2 him)
    rw [ho] at h1
    simp only [Bool.and_eq_true, List.all_eq_true, decide_eq_true_eq, List.mem_range] at h1
    obtain ⟨⟨⟨h2, h3⟩, h5⟩, h4⟩ := h1
    cases hd : o.dst with
    | none => rw [hd] at h2; cases h2
    | some d =>
      rw [hd] at h2
      have hs : slot ops i = d := by simp [slot, ho, hd]
      rw [hs]
      refine ⟨⟨rfl, by simpa using h2, fun e he hb => by have := h3 e (by simpa using he); rw [hb] at this; simpa using this, fun g hg => by rw [hg] at h5; simpa using h5⟩, fun j hj => by rw [← hs]; exact h4 j hj⟩
  refine ⟨hm, fun i o hi ho => (key i o hi ho).1, fun i j hi hj e => ?_⟩
  rcases Nat.lt_trichotomy i j with hl | hl | hl
  · exact absurd e ((key j _ hj (Array.getElem?_eq_getElem (by omega))).2 i hl)
  · exact hl
  · exact absurd e.symm ((key i _ hi (Array.getElem?_eq_getElem (by omega))).2 j hl)
theorem tailF_spec {ops : Array Oper} {m : Nat} (h : tailF ops m = true) (i : Nat) (o : Oper) (hi : m ≤ i) (ho : ops[i]? = some o) : (∀ j, j < i → ∃ e, e ∈ o.after ∧ e.on = j ∧ Region.binds .any e = true) ∧ ∀ e ∈ o.after, Region.binds .any e = true → e.on < i := by
  have h1 := List.all_eq_true.1 h i (List.mem_range.2 (Array.getElem?_eq_some_iff.1 ho).1)
  rw [ho] at h1
  simp only [Bool.or_eq_true, decide_eq_true_eq, Bool.and_eq_true, List.all_eq_true, List.mem_range] at h1
  rcases h1 with h1 | ⟨h1, h2⟩
  · omega
  · refine ⟨fun j hj => ?_, fun e he hb => by have := h2 e (by simpa using he); rw [hb] at this; simpa using this⟩
    obtain ⟨e, he, hb⟩ := Array.any_eq_true'.1 (h1 j hj)
    simp only [Bool.and_eq_true, decide_eq_true_eq] at hb
    exact ⟨e, he, hb⟩

section
variable {P : Program} {ops : Array Oper} {Q : Exit → Act → World → Prop}

theorem wpAny_tailF {m : Nat} (ht : tailF ops m = true) : ∀ (fuel k : Nat) (listed : Array Bool) (a : Act) (w : World), listed.size = ops.size → m ≤ k → k ≤ ops.size → ops.size - k ≤ fuel → (∀ j, j < k → listed.getD j false = true) →
    (∀ j, k ≤ j → j < ops.size → listed.getD j false = false) → wpList P ops Q (ops.toList.drop k) a w → wpAny P .any ops Q fuel listed a w := by
  intro fuel
  induction fuel with
  | zero =>
    intro k listed a w hsz hmk hk hf h1 h2 H
    obtain rfl : k = ops.size := by omega
    rw [List.drop_eq_nil_of_le (by simp)] at H
    refine wpAny_done (List.eq_nil_iff_forall_not_mem.2 fun i hi => ?_) H 0
    obtain ⟨g1, o, ho, _⟩ := mem_ready.1 hi
    have hil := (Array.getElem?_eq_some_iff.1 ho).1
    rw [getD_two (by rw [hsz]; exact hil), h1 i hil] at g1
    cases g1
  | succ fuel ih =>
    intro k listed a w hsz hmk hk hf h1 h2 H
    rcases Nat.lt_or_ge k ops.size with hlt | hge
    · have ho := Array.getElem?_eq_getElem hlt
      have hd : ops.toList.drop k = ops[k] :: ops.toList.drop (k + 1) := by
        rw [List.drop_eq_getElem_cons (by simpa using hlt)]
        simp
      rw [hd] at H
      have hkr : k ∈ Region.ready .any ops listed := mem_ready.2 ⟨by rw [getD_two (by rw [hsz]; exact hlt)]; exact h2 k (Nat.le_refl _) hlt, _, ho, fun e he hb => h1 _ ((tailF_spec ht k _ hmk ho).2 e he hb)⟩
      refine ⟨fun e => absurd (e ▸ hkr) (by simp), fun i hi => ?_⟩
      obtain ⟨g1, o, hoi, haft⟩ := mem_ready.1 hi
      have hil := (Array.getElem?_eq_some_iff.1 hoi).1
      have hik : i = k := by
        rcases Nat.lt_trichotomy i k with hl | hl | hl
        · rw [getD_two (by rw [hsz]; exact hil), h1 i hl] at g1
          cases g1
        · exact hl
        · obtain ⟨e, he, hon, hb⟩ := (tailF_spec ht i o (by omega) hoi).1 k hl
          have := haft e he hb
          rw [hon, h2 k (Nat.le_refl _) hlt] at this
          cases this
      subst hik
      have next : ∀ a' w', wpList P ops Q (ops.toList.drop (i + 1)) a' w' → wpAny P .any ops Q fuel (listed.setIfInBounds i true) a' w' := fun a' w' h => by
        refine ih (i + 1) _ a' w' (by simp [hsz]) (by omega) hlt (by omega) (fun j hj => ?_) (fun j hj hjl => ?_) h
        · by_cases e : i = j
          · subst e
            have : i < listed.size := by rw [hsz]; exact hlt
            simp [this]
          · rw [getD_set_ne false e]
            exact h1 j (by omega)
        · rw [getD_set_ne false (by omega)]
          exact h2 j (by omega) hjl
      unfold wpOp
      rw [ho]
      simp only [wpList] at H
      simp only []
      split
      · rename_i hw
        rw [if_pos hw] at H
        exact H.imp (Oper.wp_mono next) id
      · rename_i hw
        rw [if_neg hw] at H
        exact next _ _ H
    · obtain rfl : k = ops.size := by omega
      rw [List.drop_eq_nil_of_le (by simp)] at H
      refine wpAny_done (List.eq_nil_iff_forall_not_mem.2 fun i hi => ?_) H _
      obtain ⟨g1, o, ho, _⟩ := mem_ready.1 hi
      have hil := (Array.getElem?_eq_some_iff.1 ho).1
      rw [getD_two (by rw [hsz]; exact hil), h1 i hil] at g1
      cases g1

structure SpecsFr (ops : Array Oper) (m : Nat) (S : Nat → Value → World → Prop) (B : World → Prop) (a0 : Act) (listed : Array Bool) (a : Act) (W : World) : Prop where
  size : listed.size = ops.size
  tmps : a.tmps.size = a0.tmps.size
  defers : a.defers = a0.defers
  base : B W
  old : ∀ t, (∀ i, i < m → slot ops i ≠ t) → a.eval (.tmp t) = a0.eval (.tmp t)
  got : ∀ i, i < m → listed.getD i false = true → S i (a.eval (.tmp (slot ops i))) W
  tail : ∀ i, m ≤ i → i < ops.size → listed.getD i false = false

theorem wp_region_specs_free {id : Nat} {a : Act} {w : World} (m : Nat) (S : Nat → Value → World → Prop) (B : World → Prop) (hm : P.follows .mixedOrders = true) (hs : slotsFr ops m a.tmps.size = true) (ht : tailF ops m = true)
    (hB0 : B { w with drawn := w.drawn + 1 }) (hBg : ∀ W W', B W → Below W.heap.size W W' → B W') (hSg : ∀ i v W W', S i v W → Below W.heap.size W W' → S i v W')
    (D : Nat → Tmp) (hD : ((List.range m).all fun i => decide (slot ops i = D i)) = true)
    (step : ∀ (i : Nat) (o : Oper), i < m → ops[i]? = some o → ∀ (a' : Act) (W : World), B W → a'.tmps.size = a.tmps.size → (∀ t, ((List.range m).all fun i => decide (D i ≠ t)) = true → a'.eval (.tmp t) = a.eval (.tmp t)) →
      (∀ j, (o.after.any fun e => decide (e.on = j) && Region.binds .any e) = true → S j (a'.eval (.tmp (D j))) W) →
      (∀ j b, o.guard = some (j, b) → a'.eval (.tmp (D j)) = .bool b) ∧ o.wp P a' W (fun a'' W' => ∃ v, a'' = a'.put o.dst v ∧ S i v W' ∧ Below W.heap.size W W') Q)
    (done : ∀ (a' : Act) (W : World), B W → a'.tmps.size = a.tmps.size → a'.defers = a.defers → (∀ t, ((List.range m).all fun i => decide (D i ≠ t)) = true → a'.eval (.tmp t) = a.eval (.tmp t)) →
      (∀ i, i < m → S i (a'.eval (.tmp (D i))) W) → wpList P ops Q (ops.toList.drop m) a' W) : (Code.region id ops true).wp P Q a w := by
  obtain ⟨hmo, hd, hap⟩ := slotsFr_spec hs
  have hD' : ∀ i, i < m → slot ops i = D i := fun i hi => by simpa using List.all_eq_true.1 hD i (List.mem_range.2 hi)
  have hoT : ∀ t, ((List.range m).all fun i => decide (D i ≠ t)) = true → ∀ i, i < m → slot ops i ≠ t := fun t ht i hi => by
    rw [hD' i hi]
    simpa using List.all_eq_true.1 ht i (List.mem_range.2 hi)
  refine wp_region_any hm ?_
  have aux : ∀ (fuel : Nat) (listed : Array Bool) (a' : Act) (W : World), SpecsFr ops m S B a listed a' W → (List.range m).countP (fun i => !listed.getD i true) + (ops.size - m) ≤ fuel → wpAny P .any ops Q fuel listed a' W := by
    intro fuel
    induction fuel with
    | zero =>
      intro listed a' W h hc
      have h0 : (List.range m).countP (fun i => !listed.getD i true) = 0 := by omega
      have all : ∀ i, i < m → listed.getD i false = true := fun i hi => by
        have := List.countP_eq_zero.1 h0 i (List.mem_range.2 hi)
        rw [getD_two (by rw [h.size]; omega)] at this
        simpa using this
      exact wpAny_tailF ht 0 m listed a' W h.size (Nat.le_refl _) hmo (by omega) all h.tail (done a' W h.base h.tmps h.defers (fun t ht => h.old t (hoT t ht)) fun i hi => by rw [← hD' i hi]; exact h.got i hi (all i hi))
    | succ fuel ih =>
      intro listed a' W h hc
      by_cases hall : ∀ i, i < m → listed.getD i false = true
      · exact wpAny_tailF ht _ m listed a' W h.size (Nat.le_refl _) hmo (by omega) hall h.tail (done a' W h.base h.tmps h.defers (fun t ht => h.old t (hoT t ht)) fun i hi => by rw [← hD' i hi]; exact h.got i hi (hall i hi))
      · -- the least one that is not listed is ready
        have hne : Region.ready .any ops listed ≠ [] := by
          intro hr
          apply hall
          have all : ∀ n i, i ≤ n → i < m → listed.getD i false = true := by
            intro n
            induction n using Nat.strongRecOn with
            | _ n ih2 =>
              intro i hin hi
              cases hl : listed.getD i false with
              | true => rfl
              | false =>
                exfalso
                have hil : i < ops.size := by omega
                have : i ∈ Region.ready .any ops listed := mem_ready.2 ⟨by rw [getD_two (by rw [h.size]; exact hil), hl], _, Array.getElem?_eq_getElem hil, fun e he hb => by
                  have := (hd i _ hi (Array.getElem?_eq_getElem hil)).2.2.1 e he hb
                  exact ih2 e.on (by omega) e.on (Nat.le_refl _) (by omega)⟩
                rw [hr] at this
                cases this
          exact fun i hi => all i i (Nat.le_refl _) hi
        refine ⟨fun e => absurd e hne, fun i hi => ?_⟩
        obtain ⟨h1, o, ho, haft⟩ := mem_ready.1 hi
        have hil := (Array.getElem?_eq_some_iff.1 ho).1
        have him : i < m := by
          rcases Nat.lt_or_ge i m with hl | hl
          · exact hl
          · exfalso
            apply hall
            intro j hj
            obtain ⟨e, he, hon, hb⟩ := (tailF_spec ht i o hl ho).1 j (by omega)
            have := haft e he hb
            rw [hon] at this
            exact this
        obtain ⟨hg, hp⟩ := step i o him ho a' W h.base h.tmps (fun t ht => h.old t (hoT t ht)) fun j hj => by
          obtain ⟨e, he, hb⟩ := Array.any_eq_true'.1 hj
          simp only [Bool.and_eq_true, decide_eq_true_eq] at hb
          obtain ⟨rfl, hb⟩ := hb
          have hlt : e.on < m := by have := (hd i o him ho).2.2.1 e he hb; omega
          rw [← hD' _ hlt]
          exact h.got e.on hlt (haft e he hb)
        have hw : Region.wanted o (yielded ops a'.tmps) = true := wanted_of (fun g hg => by
            have hlt : g.1 < m := by have := (hd i o him ho).2.2.2 g hg; omega
            exact ⟨_, Array.getElem?_eq_getElem (by omega), (hd _ _ hlt (Array.getElem?_eq_getElem (by omega))).1⟩) fun j b hgb => by
          have hlt : j < m := by have := (hd i o him ho).2.2.2 _ hgb; simp at this; omega
          rw [hD' _ hlt]
          exact hg j b hgb
        unfold wpOp
        rw [ho]
        simp only [hw, if_true]
        refine .inl (Oper.wp_mono (fun a'' W' hh => ?_) hp)
        obtain ⟨v, rfl, hS, hb⟩ := hh
        rw [(hd i o him ho).1]
        refine ih _ _ _ ⟨by simp [h.size], by simp [Act.put, h.tmps], h.defers, hBg _ _ h.base hb, fun t ht => ?_, fun j hj hl => ?_, fun j hj hjl => ?_⟩ ?_
        · rw [eval_put_other (Ne.symm (ht i him))]
          exact h.old t ht
        · by_cases e : i = j
          · subst e
            rw [eval_put_same (by rw [h.tmps]; exact (hd i o him ho).2.1)]
            exact hS
          · rw [eval_put_other (fun e' => e (hap i j him hj e'.symm))]
            rw [getD_set_ne false e] at hl
            exact hSg _ _ _ _ (h.got j hj hl) hb
        · rw [getD_set_ne false (by omega)]
          exact h.tail j hj hjl
        · have : (List.range m).countP (fun k => !(listed.setIfInBounds i true).getD k true) < (List.range m).countP (fun k => !listed.getD k true) := by
            refine countP_step _ _ i _ (fun y hy => ?_) (List.mem_range.2 him) (by simp [h1]) ?_
            · by_cases e : i = y
              · subst e; simp [h1]
              · rw [getD_set_ne true e] at hy; exact hy
            · have : i < listed.size := by rw [h.size]; exact hil
              simp [this]
          omega
  exact aux ops.size _ a _ ⟨by simp, rfl, rfl, hB0, fun _ _ => rfl, fun i hi hl => (by rw [getD_replicate_false] at hl; cases hl), fun i _ _ => getD_replicate_false _ _⟩ (by
    have := List.countP_le_length (p := fun i => !(Array.replicate ops.size false).getD i true) (l := List.range m)
    simp only [List.length_range] at this
    omega)

/-- The slots of l get their values, one behind the other. -/
def puts (a : Act) (l : List (Tmp × Value)) : Act := l.foldl (fun a x => a.put (some x.1) x.2) a
theorem puts_size (l : List (Tmp × Value)) : ∀ a : Act, (puts a l).tmps.size = a.tmps.size ∧ (puts a l).defers = a.defers := by
  induction l with
  | nil => exact fun a => ⟨rfl, rfl⟩
  | cons x l ih => exact fun a => ⟨by rw [show puts a (x :: l) = puts (a.put (some x.1) x.2) l from rfl, (ih _).1]; simp [Act.put], (ih _).2⟩
theorem puts_eval (l : List (Tmp × Value)) : ∀ (a a' : Act), a'.tmps.size = a.tmps.size → (∀ x, x ∈ l → x.1 < a.tmps.size ∧ a'.eval (.tmp x.1) = x.2) → (∀ t, t ∉ l.map (·.1) → a'.eval (.tmp t) = a.eval (.tmp t)) → ∀ t, a'.eval (.tmp t) = (puts a l).eval (.tmp t) := by
  induction l with
  | nil => exact fun a a' _ _ h t => h t (by simp)
  | cons x l ih =>
    intro a a' hsz h1 h2 t
    refine ih (a.put (some x.1) x.2) a' (by simp [Act.put, hsz]) (fun y hy => ?_) (fun t ht => ?_) t
    · have := h1 y (List.mem_cons_of_mem _ hy)
      exact ⟨by simpa [Act.put] using this.1, this.2⟩
    · by_cases e : t = x.1
      · subst e
        have := h1 x List.mem_cons_self
        rw [eval_put_same this.1]
        exact this.2
      · rw [eval_put_other e]
        exact h2 t (by simp only [List.map_cons, List.mem_cons, not_or]; exact ⟨e, ht⟩)
/-- An activation whose slots all are known. -/
theorem act_puts {a a' : Act} {l : List (Tmp × Value)} (hsz : a'.tmps.size = a.tmps.size) (hdf : a'.defers = a.defers) (h1 : ∀ x, x ∈ l → x.1 < a.tmps.size ∧ a'.eval (.tmp x.1) = x.2) (h2 : ∀ t, t ∉ l.map (·.1) → a'.eval (.tmp t) = a.eval (.tmp t)) : a' = puts a l := by
  have he := puts_eval l a a' hsz h1 h2
  have hs := puts_size l a
  obtain ⟨tm, df⟩ := a'
  obtain ⟨tm2, df2, hp⟩ : ∃ tm2 df2, puts a l = ⟨tm2, df2⟩ := ⟨_, _, rfl⟩
  rw [hp] at he hs ⊢
  have hdf2 : df = df2 := hdf.trans hs.2.symm
  subst hdf2
  congr 1
  have hsz2 : tm.size = tm2.size := hsz.trans hs.1.symm
  refine Array.ext hsz2 fun i h1 h2 => ?_
  have := he i
  simpa [Act.eval, h1, h2] using this
end
end Go.Proofs.Ytgdpgdnhhjclcaa

/- The reference's IsPlace, Places, IsDrop, first. -/
namespace Go.Proofs.Ytgdpgdnhhjclcaa
open Go.RowKit Go.Shelf

section
variable {w : World} {Wd : Int} {A : Option Addr} {n c : Nat} {A' : Option Addr} {n' c' : Nat} {ss : List (Int × Int)} {ds : List (Int × Int × Int)}

set_option maxHeartbeats 400000 in
theorem isPlace_ref (x : Int) (w : World) : Calls Try.prog 96 #[.agg #[.int .i64 Wd, .slice A n c, .slice A' n' c'], .int .i64 x] w fun e w' => e = .returned (.bool (decide (-2 ≤ x) && decide (x < (n : Int)))) ∧ Ext w w' := by
  by_cases h1 : x = -1
  · subst h1
    rw [show (decide ((-2 : Int) ≤ -1) && decide ((-1 : Int) < (n : Int))) = true from by simp; omega]
    go_enter Try.func96, Try.ntmps96
    go_wp2
    go_ret
    exact ⟨rfl, ext_alloc w _⟩
  · by_cases h2 : x = -2
    · subst h2
      rw [show (decide ((-2 : Int) ≤ -2) && decide ((-2 : Int) < (n : Int))) = true from by simp; omega]
      go_enter Try.func96, Try.ntmps96
      go_wp2
      go_ret
      exact ⟨rfl, ext_alloc w _⟩
    · have e1 : (x == -1) = false := by simp [h1]
      have e2 : (x == -2) = false := by simp [h2]
      have cS := isSpot_ref (Wd := Wd) (A := A) (n := n) (c := c) (A' := A') (n' := n') (c' := c') x (w.alloc (.cells #[.int .i64 Wd, .slice A n c, .slice A' n' c'] 25))
      rw [show (decide (0 ≤ x) && decide (x < (n : Int))) = (decide (-2 ≤ x) && decide (x < (n : Int))) from by
        by_cases h3 : 0 ≤ x
        · simp [h3]; omega
        · have : ¬ (-2 ≤ x) := by omega
          simp [h3, this]] at cS
      generalize (decide (-2 ≤ x) && decide (x < (n : Int))) = q at cS ⊢
      go_enter Try.func96, Try.ntmps96
      go_wp2_with (go_at_call 60; refine cS.mono ?_; rintro e w2 ⟨rfl, hb2⟩)
      go_ret
      exact ⟨rfl, (ext_alloc w _).trans hb2⟩

/-- Whether a number is a place of a bath with n spots. -/
def plB (n : Nat) (x : Int) : Bool := decide (-2 ≤ x) && decide (x < (n : Int))

set_option maxRecDepth 100000 in
set_option maxHeartbeats 1000000 in
theorem places_ref (one two : Int) (hb : IsBath w w.heap.size A n c A' n' c' ss ds) :
    Calls Try.prog 70 #[.agg #[.int .i64 Wd, .slice A n c, .slice A' n' c'], .int .i64 one, .int .i64 two] w fun e w' => e = .returned (.int .i64 (forErr Wd ss ds one two)) ∧ Ext w w' := by
  have cB : ∀ W : World, IsBath W W.heap.size A n c A' n' c' ss ds → _ := fun W h => checkBath_ref (Wd := Wd) h
  have hX0 : BathAt (w.alloc (.cells #[.int .i64 Wd, .slice A n c, .slice A' n' c'] 25)) w.heap.size Wd A n c A' n' c' ss ds := BathAt.new hb
  have hE0 : Ext w (w.alloc (.cells #[.int .i64 Wd, .slice A n c, .slice A' n' c'] 25)) := ext_alloc w _
  have hnn := hb.nss
  clear hb
  by_cases he : bathErr Wd ss ds = 0
  · rw [he] at cB
    have cP := fun (x : Int) (W : World) => isPlace_ref (Wd := Wd) (A := A) (n := n) (c := c) (A' := A') (n' := n') (c' := c') x W
    have hans : forErr Wd ss ds one two = if one ≠ two ∧ plB n one = true ∧ plB n two = true then 0 else 2 := by
      unfold forErr plB
      rw [if_pos he, hnn]
    obtain ⟨ans, hans2⟩ : ∃ ans, forErr Wd ss ds one two = ans := ⟨_, rfl⟩
    rw [hans2] at hans ⊢
    have HANS := Lib.hid hans
    have c1 := cP one
    have c2 := cP two
    change ∀ W, Calls Try.prog 96 _ W (fun e w' => e = .returned (.bool (plB n one)) ∧ Ext W w') at c1
    change ∀ W, Calls Try.prog 96 _ W (fun e w' => e = .returned (.bool (plB n two)) ∧ Ext W w') at c2
    clear cP hans hans2 hnn he
    cases p1 : plB n one with
    | false =>
      rw [p1] at c1
      obtain rfl : ans = 2 := by rw [HANS.out, p1]; simp
      clear p1
      go_enter Try.func70, Try.ntmps70
      go_wp2_with fail
      refine (cB _ hX0.bath).mono ?_
      rintro e w1 ⟨rfl, hb1⟩
      obtain ⟨q0, q1, q2⟩ := (hX0.ext hb1).cells
      have hE1 := Lib.hid (hE0.trans hb1)
      clear hX0 hE0 hb1
      go_wp2_with fail
      refine (c1 _).mono ?_
      rintro e w2 ⟨rfl, hb2⟩
      go_wp2
      go_ret
      exact ⟨rfl, hE1.out.trans hb2⟩
    | true =>
      rw [p1] at c1
      cases p2 : plB n two with
      | false =>
        rw [p2] at c2
        obtain rfl : ans = 2 := by rw [HANS.out, p2]; simp
        clear p1 p2
        go_enter Try.func70, Try.ntmps70
        go_wp2_with fail
        refine (cB _ hX0.bath).mono ?_
        rintro e w1 ⟨rfl, hb1⟩
        have hX1 := hX0.ext hb1
        obtain ⟨q0, q1, q2⟩ := hX1.cells
        have hE1 := Lib.hid (hE0.trans hb1)
        clear hX0 hE0 hb1
        go_wp2_with fail
        refine (c1 _).mono ?_
        rintro e w2 ⟨rfl, hb2⟩
        have hE2 := Lib.hid (hE1.out.trans hb2)
        clear q0 q1 q2
        obtain ⟨q0, q1, q2⟩ := (hX1.ext hb2).cells
        clear hX1 hE1 hb2
        go_wp2_with fail
        refine (c2 _).mono ?_
        rintro e w3 ⟨rfl, hb3⟩
        go_wp2
        go_ret
        exact ⟨rfl, hE2.out.trans hb3⟩
      | true =>
        rw [p2] at c2
        have HANS3 : Hid (ans = if one ≠ two then 0 else 2) := Lib.hid (by rw [HANS.out, p1, p2]; simp)
        clear HANS p1 p2
        by_cases h12 : one = two
        · obtain rfl : ans = 2 := by rw [HANS3.out]; simp [h12]
          have e12 : (one == two) = true := by simp [h12]
          clear h12
          go_enter Try.func70, Try.ntmps70
          go_wp2_with fail
          refine (cB _ hX0.bath).mono ?_
          rintro e w1 ⟨rfl, hb1⟩
          have hX1 := hX0.ext hb1
          obtain ⟨q0, q1, q2⟩ := hX1.cells
          have hE1 := Lib.hid (hE0.trans hb1)
          clear hX0 hE0 hb1
          go_wp2_with fail
          refine (c1 _).mono ?_
          rintro e w2 ⟨rfl, hb2⟩
          have hE2 := Lib.hid (hE1.out.trans hb2)
          clear q0 q1 q2
          obtain ⟨q0, q1, q2⟩ := (hX1.ext hb2).cells
          clear hX1 hE1 hb2
          go_wp2_with fail
          refine (c2 _).mono ?_
          rintro e w3 ⟨rfl, hb3⟩
          go_wp2
          go_ret
          exact ⟨rfl, hE2.out.trans hb3⟩
        · obtain rfl : ans = 0 := by rw [HANS3.out, if_pos h12]
          have e12 : (one == two) = false := by simp [h12]
          clear h12
          go_enter Try.func70, Try.ntmps70
          go_wp2_with fail
          refine (cB _ hX0.bath).mono ?_
          rintro e w1 ⟨rfl, hb1⟩
          have hX1 := hX0.ext hb1
          obtain ⟨q0, q1, q2⟩ := hX1.cells
          have hE1 := Lib.hid (hE0.trans hb1)
          clear hX0 hE0 hb1
          go_wp2_with fail
          refine (c1 _).mono ?_
          rintro e w2 ⟨rfl, hb2⟩
          have hE2 := Lib.hid (hE1.out.trans hb2)
          clear q0 q1 q2
          obtain ⟨q0, q1, q2⟩ := (hX1.ext hb2).cells
          clear hX1 hE1 hb2
          go_wp2_with fail
          refine (c2 _).mono ?_
          rintro e w3 ⟨rfl, hb3⟩
          go_wp2
          go_ret
          exact ⟨rfl, hE2.out.trans hb3⟩
  · clear hnn
    unfold forErr
    rw [if_neg he]
    generalize bathErr Wd ss ds = r at he cB ⊢
    have hne2 : (r != 0) = true := by simpa using he
    go_enter Try.func70, Try.ntmps70
    go_wp2_with fail
    refine (cB _ hX0.bath).mono ?_
    rintro e w1 ⟨rfl, hb1⟩
    have hX1 := hX0.ext hb1
    have hE1 := Lib.hid (hE0.trans hb1)
    clear hX0 hE0 hb1
    obtain ⟨q0, q1, q2⟩ := hX1.cells
    go_wp2_with fail
    refine (cB _ hX1.bath).mono ?_
    rintro e w2 ⟨rfl, hb2⟩
    go_wp2
    go_ret
    exact ⟨rfl, hE1.out.trans hb2⟩

set_option maxHeartbeats 400000 in
theorem isDrop_ref (x : Int) (w : World) : Calls Try.prog 74 #[.agg #[.int .i64 Wd, .slice A n c, .slice A' n' c'], .int .i64 x] w fun e w' => e = .returned (.bool (decide (0 ≤ x) && decide (x < (n' : Int)))) ∧ Ext w w' := by
  by_cases h1 : 0 ≤ x
  · by_cases h2 : x < (n' : Int)
    · go_enter Try.func74, Try.ntmps74
      go_wp2
      go_ret
      exact ⟨ret_bool (by simp [h1, h2]), ext_alloc w _⟩
    · go_enter Try.func74, Try.ntmps74
      go_wp2
      go_ret
      exact ⟨ret_bool (by simp [h2]), ext_alloc w _⟩
  · go_enter Try.func74, Try.ntmps74
    go_wp2
    go_ret
    exact ⟨ret_bool (by simp; omega), ext_alloc w _⟩

/-- Whether a drop is the first one on its spot. -/
def firstB (ds : List (Int × Int × Int)) (k : Nat) : Bool := (List.range k).all fun j => !decide ((ds.getD j (0, 0, 0)).1 = (ds.getD k (0, 0, 0)).1)

set_option maxRecDepth 100000 in
set_option maxHeartbeats 1000000 in
theorem first_ref (k : Nat) (hb : IsBath w w.heap.size A n c A' n' c' ss ds) (hk : k < n') :
    Calls Try.prog 75 #[.agg #[.int .i64 Wd, .slice A n c, .slice A' n' c'], .int .i64 (k : Int)] w fun e w' => e = .returned (.bool (firstB ds k)) ∧ Ext w w' := by
  have h0 := BathAt.new (Wd := Wd) hb
  have hkc : (k : Int) < 9223372036854775807 := by have := hb.nle'; omega
  have HNL := Lib.hid hb.nle'
  clear hb
  go_enter Try.func75, Try.ntmps75
  go_wp2
  obtain ⟨w0, hw0⟩ : ∃ w0, w.alloc (.cells #[.int .i64 Wd, .slice A n c, .slice A' n' c'] 25) = w0 := ⟨_, rfl⟩
  have e0 : Ext w w0 := by rw [← hw0]; exact ext_alloc w _
  rw [hw0] at h0 ⊢
  have E0 := Lib.hid e0
  have H0 := Lib.hid h0
  clear hw0 e0 h0
  go_loopw [5] (fun i wr => ∃ j : Nat, j ≤ k ∧ i = .int .i64 j ∧ Hid (Ext w0 wr) ∧ Hid (∀ m, m < j → (ds.getD m (0, 0, 0)).1 ≠ (ds.getD k (0, 0, 0)).1)) (fun i _ => k - (intOf i).toNat)
  case atStart => exact ⟨0, Nat.zero_le _, rfl, Lib.hid (Ext.refl _), Lib.hid (fun m hm => absurd hm (by omega))⟩
  case round =>
    obtain ⟨j, hj, rfl, hB, hN⟩ := hrel
    have hx := H0.out.ext hB.out
    obtain ⟨q0, q1, q2⟩ := hx.cells
    by_cases hlt : j < k
    · have hltz : (j : Int) < (k : Int) := by omega
      have hjn : (j : Int) < (n' : Int) := by omega
      have hkn : (k : Int) < (n' : Int) := by omega
      obtain ⟨b, off, rfl, d0, d1, d2⟩ := hx.drop (k := j) (by omega)
      obtain ⟨b', off', hbb, c0, c1, c2⟩ := hx.drop hk
      cases hbb
      obtain ⟨x, hxj⟩ : ∃ x, (ds.getD j (0, 0, 0)).1 = x := ⟨_, rfl⟩
      obtain ⟨y, hyk⟩ : ∃ y, (ds.getD k (0, 0, 0)).1 = y := ⟨_, rfl⟩
      rw [hxj] at d0
      rw [hyk] at c0
      have HXY := Lib.hid (And.intro hxj hyk)
      clear hx hxj hyk d1 d2 c1 c2
      by_cases hxy : x = y
      · subst hxy
        have hf : Hid (firstB ds k = false) := Lib.hid (by
          unfold firstB
          rw [List.all_eq_false]
          exact ⟨j, List.mem_range.2 hlt, by rw [HXY.out.1, HXY.out.2]; simp⟩)
        clear HXY
        go_wp2
        go_quiet (fail)
        go_wp2
        go_ret
        exact ⟨ret_bool hf.out.symm, E0.out.trans (ext_drewN hB.out _)⟩
      · have e1 : (x == y) = false := by simp [hxy]
        have hN1 : Hid (∀ m, m < j + 1 → (ds.getD m (0, 0, 0)).1 ≠ (ds.getD k (0, 0, 0)).1) := Lib.hid fun m hm => by
          by_cases e : m = j
          · subst e
            rw [HXY.out.1, HXY.out.2]
            exact hxy
          · exact hN.out m (by omega)
        clear HXY hxy hN
        go_wp2
        go_quiet (fail)
        go_wp2
        go_roundw
        case measure => simp [intOf]; omega
        case rel => exact ⟨j + 1, by omega, by go_num, Lib.hid (ext_drewN hB.out _), hN1⟩
    · have hltz : ¬ (j : Int) < (k : Int) := by omega
      have hf : Hid (firstB ds k = true) := Lib.hid (by
        unfold firstB
        rw [List.all_eq_true]
        intro m hm
        simpa using hN.out m (by have := List.mem_range.1 hm; omega))
      clear hx
      go_wp2
      go_ret
      exact ⟨ret_bool hf.out.symm, E0.out.trans hB.out⟩
end
end Go.Proofs.Ytgdpgdnhhjclcaa

/- The reference's Touches: what the operations of its two statements `size, spot` yield. -/
namespace Go.Proofs.Ytgdpgdnhhjclcaa
open Go.RowKit Go.Shelf

theorem all_ne_of {m : Nat} {D : Nat → Tmp} {l : List (Tmp × Value)} (hl : (List.range m).map D = l.map (·.1)) {t : Tmp} (ht : t ∉ l.map (·.1)) : ((List.range m).all fun i => decide (D i ≠ t)) = true := by
  rw [List.all_eq_true]
  intro i hi
  rw [← hl] at ht
  simp only [decide_eq_true_eq]
  intro e
  exact ht (e ▸ List.mem_map_of_mem hi)

/-- What each operation yields: a box at p, a truth, the spot i with its sum and place. -/
def sizeSpotS (Wd : Int) (b off n c : Nat) (A' : Option Addr) (n' c' : Nat) (T : Option Addr) (m cT : Nat) (i : Nat) (s X Y : Int) (p N0 : Nat) (k : Nat) (v : Value) (W : World) : Prop :=
  match k with
  | 0 => v = .agg #[.int .i64 Wd, .slice (some ⟨b, off, none⟩) n c, .slice A' n' c']
  | 1 => v = .slice T m cT
  | 2 => v = .int .i64 (i : Int)
  | 3 => v = .int .i64 s
  | 4 => v = .pointer (some ⟨p, 1, none⟩)
  | 5 => v = .slice (some ⟨b, off, none⟩) n c
  | 6 => v = .int .i64 (i : Int)
  | 7 => v = .pointer (some ⟨b, off + i * 2, none⟩)
  | 8 => v = .agg #[.int .i64 X, .int .i64 Y]
  | 9 => ∃ g, v = .pointer (some ⟨g, 0, none⟩) ∧ N0 ≤ g ∧ W.heap[g]? = some (.cells #[.int .i64 0, .int .i64 0] 74 (0, 0))
  | _ => v = .int .i64 s
theorem sizeSpotS_ext (Wd : Int) (b off n c : Nat) (A' : Option Addr) (n' c' : Nat) (T : Option Addr) (m cT : Nat) (i : Nat) (s X Y : Int) (p N0 : Nat) (k : Nat) (v : Value) (W W' : World) (h : sizeSpotS Wd b off n c A' n' c' T m cT i s X Y p N0 k v W) (e : Below W.heap.size W W') : sizeSpotS Wd b off n c A' n' c' T m cT i s X Y p N0 k v W' := by
  unfold sizeSpotS at h ⊢
  split at h <;> first | exact h | (obtain ⟨g, rfl, hn, hr⟩ := h; exact ⟨g, rfl, hn, row_ext hr e⟩)

noncomputable def touchReg5 : Array Oper := (Try.f46.body.bind (regionOf · 5)).getD #[]
def touchD5 (k : Nat) : Tmp := if k = 9 then 10 else if k = 10 then 9 else 24 + k
noncomputable def touchReg12 : Array Oper := (Try.f46.body.bind (regionOf · 12)).getD #[]
def touchD12 (k : Nat) : Tmp := if k = 9 then 12 else if k = 10 then 11 else 59 + k
section
variable {Wd : Int} {b off n c : Nat} {A' : Option Addr} {n' c' : Nat} {ss : List (Int × Int)} {ds : List (Int × Int × Int)} {T : Option Addr} {m cT i : Nat} {s X Y : Int} {p N0 : Nat} {ts : List Int} {Q : Exit → Act → World → Prop} {a : Act} {V W : World} {o : Oper}

theorem touch5_op0 (o4 : a.eval (.tmp 4) = .pointer (some ⟨p, 0, none⟩)) (hx : BathAt V p Wd (some ⟨b, off, none⟩) n c A' n' c' ss ds) (ho : touchReg5[0]? = some o) (hB : Ext V W) (haft : ∀ j, (o.after.any fun e => decide (e.on = j) && Region.binds .any e) = true → sizeSpotS Wd b off n c A' n' c' T m cT i s X Y p N0 j (a.eval (.tmp (touchD5 j))) W) :
    (∀ j b, o.guard = some (j, b) → a.eval (.tmp (touchD5 j)) = .bool b) ∧ o.wp Try.prog a W (fun a'' W' => ∃ v, a'' = a.put o.dst v ∧ sizeSpotS Wd b off n c A' n' c' T m cT i s X Y p N0 0 v W' ∧ Below W.heap.size W W') Q := by
  have hop := op_at ho (·.op) (x := .load 25 (.tmp 4)) (by kernel_rfl)
  have hgd := op_at ho (·.guard) (x := none) (by kernel_rfl)
  refine ⟨fun j b h => (by rw [hgd] at h; cases h), ?_⟩
  obtain ⟨q0, q1, q2⟩ := (hx.ext hB).cells
  exact specs_value (R := sizeSpotS Wd b off n c A' n' c' T m cT i s X Y p N0 0) (v := .agg #[.int .i64 Wd, .slice (some ⟨b, off, none⟩) n c, .slice A' n' c']) (by simp [execOp, hop, go_sem, ev o4, q0, q1, q2]) rfl (Ext.refl W)
theorem touch5_op1 (o1 : a.eval (.tmp 1) = .slice T m cT) (ho : touchReg5[1]? = some o) (hB : Ext V W) (haft : ∀ j, (o.after.any fun e => decide (e.on = j) && Region.binds .any e) = true → sizeSpotS Wd b off n c A' n' c' T m cT i s X Y p N0 j (a.eval (.tmp (touchD5 j))) W) :
    (∀ j b, o.guard = some (j, b) → a.eval (.tmp (touchD5 j)) = .bool b) ∧ o.wp Try.prog a W (fun a'' W' => ∃ v, a'' = a.put o.dst v ∧ sizeSpotS Wd b off n c A' n' c' T m cT i s X Y p N0 1 v W' ∧ Below W.heap.size W W') Q := by
  have hop := op_at ho (·.op) (x := .move (.tmp 1)) (by kernel_rfl)
  have hgd := op_at ho (·.guard) (x := none) (by kernel_rfl)
  refine ⟨fun j b h => (by rw [hgd] at h; cases h), ?_⟩
  exact specs_value (R := sizeSpotS Wd b off n c A' n' c' T m cT i s X Y p N0 1) (v := .slice T m cT) (by simp [execOp, hop, go_sem, ev o1]) rfl (Ext.refl W)
theorem touch5_op2 (ov : a.eval (.tmp 2) = .int .i64 (i : Int)) (ho : touchReg5[2]? = some o) (hB : Ext V W) (haft : ∀ j, (o.after.any fun e => decide (e.on = j) && Region.binds .any e) = true → sizeSpotS Wd b off n c A' n' c' T m cT i s X Y p N0 j (a.eval (.tmp (touchD5 j))) W) :
    (∀ j b, o.guard = some (j, b) → a.eval (.tmp (touchD5 j)) = .bool b) ∧ o.wp Try.prog a W (fun a'' W' => ∃ v, a'' = a.put o.dst v ∧ sizeSpotS Wd b off n c A' n' c' T m cT i s X Y p N0 2 v W' ∧ Below W.heap.size W W') Q := by
  have hop := op_at ho (·.op) (x := .move (.tmp 2)) (by kernel_rfl)
  have hgd := op_at ho (·.guard) (x := none) (by kernel_rfl)
  refine ⟨fun j b h => (by rw [hgd] at h; cases h), ?_⟩
  exact specs_value (R := sizeSpotS Wd b off n c A' n' c' T m cT i s X Y p N0 2) (v := .int .i64 (i : Int)) (by simp [execOp, hop, go_sem, ev ov]) rfl (Ext.refl W)
theorem touch5_op3 (hx : BathAt V p Wd (some ⟨b, off, none⟩) n c A' n' c' ss ds) (h100 : n' ≤ 100) (hm : m = ts.length) (hmn : n' ≤ m) (hmm : m ≤ 9223372036854775807) (ht : Held V V.heap.size 1 encI T ts) (hbd : ∀ k, 0 ≤ ts.getD k 0 ∧ ts.getD k 0 ≤ 10000) (hsum : sumAt ds ts i n' = s) (ho : touchReg5[3]? = some o) (hB : Ext V W) (haft : ∀ j, (o.after.any fun e => decide (e.on = j) && Region.binds .any e) = true → sizeSpotS Wd b off n c A' n' c' T m cT i s X Y p N0 j (a.eval (.tmp (touchD5 j))) W) :
    (∀ j b, o.guard = some (j, b) → a.eval (.tmp (touchD5 j)) = .bool b) ∧ o.wp Try.prog a W (fun a'' W' => ∃ v, a'' = a.put o.dst v ∧ sizeSpotS Wd b off n c A' n' c' T m cT i s X Y p N0 3 v W' ∧ Below W.heap.size W W') Q := by
  have hop := op_at ho (·.op) (x := .call { callee := .value (.func 45), args := #[.tmp 24, .tmp 25, .tmp 26], argTypes := #[25, 55, 3] }) (by kernel_rfl)
  have hgd := op_at ho (·.guard) (x := none) (by kernel_rfl)
  refine ⟨fun j b h => (by rw [hgd] at h; cases h), ?_⟩
  have e0 : a.eval (.tmp 24) = .agg #[.int .i64 Wd, .slice (some ⟨b, off, none⟩) n c, .slice A' n' c'] := haft 0 (op_at ho (fun o => o.after.any fun e => decide (e.on = 0) && Region.binds .any e) (x := true) (by kernel_rfl))
  have e1 : a.eval (.tmp 25) = .slice T m cT := haft 1 (op_at ho (fun o => o.after.any fun e => decide (e.on = 1) && Region.binds .any e) (x := true) (by kernel_rfl))
  have e2 : a.eval (.tmp 26) = .int .i64 (i : Int) := haft 2 (op_at ho (fun o => o.after.any fun e => decide (e.on = 2) && Region.binds .any e) (x := true) (by kernel_rfl))
  have hX := hx.ext hB
  have hc := sizeOf_ref (Wd := Wd) T m cT ts (i : Int) hX.bath h100 hm hmn hmm (ht.ext hB) hbd
  rw [hsum] at hc
  exact specs_call (R := sizeSpotS Wd b off n c A' n' c' T m cT i s X Y p N0 3) (f := 45) (args := #[.agg #[.int .i64 Wd, .slice (some ⟨b, off, none⟩) n c, .slice A' n' c'], .slice T m cT, .int .i64 (i : Int)]) (by simp [execOp, hop, go_sem, ev e0, ev e1, ev e2]) (hc.mono fun e w' h => ⟨_, h.1, rfl, h.2⟩)
theorem touch5_op4 (o4 : a.eval (.tmp 4) = .pointer (some ⟨p, 0, none⟩)) (ho : touchReg5[4]? = some o) (hB : Ext V W) (haft : ∀ j, (o.after.any fun e => decide (e.on = j) && Region.binds .any e) = true → sizeSpotS Wd b off n c A' n' c' T m cT i s X Y p N0 j (a.eval (.tmp (touchD5 j))) W) :
    (∀ j b, o.guard = some (j, b) → a.eval (.tmp (touchD5 j)) = .bool b) ∧ o.wp Try.prog a W (fun a'' W' => ∃ v, a'' = a.put o.dst v ∧ sizeSpotS Wd b off n c A' n' c' T m cT i s X Y p N0 4 v W' ∧ Below W.heap.size W W') Q := by
  have hop := op_at ho (·.op) (x := .fieldAddr 25 (.tmp 4) 1) (by kernel_rfl)
  have hgd := op_at ho (·.guard) (x := none) (by kernel_rfl)
  refine ⟨fun j b h => (by rw [hgd] at h; cases h), ?_⟩
  exact specs_value (R := sizeSpotS Wd b off n c A' n' c' T m cT i s X Y p N0 4) (v := .pointer (some ⟨p, 1, none⟩)) (by simp [execOp, hop, go_sem, ev o4]) rfl (Ext.refl W)
theorem touch5_op5 (o4 : a.eval (.tmp 4) = .pointer (some ⟨p, 0, none⟩)) (hx : BathAt V p Wd (some ⟨b, off, none⟩) n c A' n' c' ss ds) (ho : touchReg5[5]? = some o) (hB : Ext V W) (haft : ∀ j, (o.after.any fun e => decide (e.on = j) && Region.binds .any e) = true → sizeSpotS Wd b off n c A' n' c' T m cT i s X Y p N0 j (a.eval (.tmp (touchD5 j))) W) :
    (∀ j b, o.guard = some (j, b) → a.eval (.tmp (touchD5 j)) = .bool b) ∧ o.wp Try.prog a W (fun a'' W' => ∃ v, a'' = a.put o.dst v ∧ sizeSpotS Wd b off n c A' n' c' T m cT i s X Y p N0 5 v W' ∧ Below W.heap.size W W') Q := by
  have hop := op_at ho (·.op) (x := .load 22 (.tmp 28)) (by kernel_rfl)
  have hgd := op_at ho (·.guard) (x := none) (by kernel_rfl)
  refine ⟨fun j b h => (by rw [hgd] at h; cases h), ?_⟩
  obtain ⟨q0, q1, q2⟩ := (hx.ext hB).cells
  have e4 : a.eval (.tmp 28) = .pointer (some ⟨p, 1, none⟩) := haft 4 (op_at ho (fun o => o.after.any fun e => decide (e.on = 4) && Region.binds .any e) (x := true) (by kernel_rfl))
  exact specs_value (R := sizeSpotS Wd b off n c A' n' c' T m cT i s X Y p N0 5) (v := .slice (some ⟨b, off, none⟩) n c) (by simp [execOp, hop, go_sem, ev e4, q1]) rfl (Ext.refl W)
theorem touch5_op6 (ov : a.eval (.tmp 2) = .int .i64 (i : Int)) (ho : touchReg5[6]? = some o) (hB : Ext V W) (haft : ∀ j, (o.after.any fun e => decide (e.on = j) && Region.binds .any e) = true → sizeSpotS Wd b off n c A' n' c' T m cT i s X Y p N0 j (a.eval (.tmp (touchD5 j))) W) :
    (∀ j b, o.guard = some (j, b) → a.eval (.tmp (touchD5 j)) = .bool b) ∧ o.wp Try.prog a W (fun a'' W' => ∃ v, a'' = a.put o.dst v ∧ sizeSpotS Wd b off n c A' n' c' T m cT i s X Y p N0 6 v W' ∧ Below W.heap.size W W') Q := by
  have hop := op_at ho (·.op) (x := .move (.tmp 2)) (by kernel_rfl)
  have hgd := op_at ho (·.guard) (x := none) (by kernel_rfl)
  refine ⟨fun j b h => (by rw [hgd] at h; cases h), ?_⟩
  exact specs_value (R := sizeSpotS Wd b off n c A' n' c' T m cT i s X Y p N0 6) (v := .int .i64 (i : Int)) (by simp [execOp, hop, go_sem, ev ov]) rfl (Ext.refl W)
theorem touch5_op7 (hin : (i : Int) < (n : Int)) (ho : touchReg5[7]? = some o) (hB : Ext V W) (haft : ∀ j, (o.after.any fun e => decide (e.on = j) && Region.binds .any e) = true → sizeSpotS Wd b off n c A' n' c' T m cT i s X Y p N0 j (a.eval (.tmp (touchD5 j))) W) :
    (∀ j b, o.guard = some (j, b) → a.eval (.tmp (touchD5 j)) = .bool b) ∧ o.wp Try.prog a W (fun a'' W' => ∃ v, a'' = a.put o.dst v ∧ sizeSpotS Wd b off n c A' n' c' T m cT i s X Y p N0 7 v W' ∧ Below W.heap.size W W') Q := by
  have hop := op_at ho (·.op) (x := .indexAddr 22 (.tmp 29) (.tmp 30)) (by kernel_rfl)
  have hgd := op_at ho (·.guard) (x := none) (by kernel_rfl)
  refine ⟨fun j b h => (by rw [hgd] at h; cases h), ?_⟩
  have e5 : a.eval (.tmp 29) = .slice (some ⟨b, off, none⟩) n c := haft 5 (op_at ho (fun o => o.after.any fun e => decide (e.on = 5) && Region.binds .any e) (x := true) (by kernel_rfl))
  have e6 : a.eval (.tmp 30) = .int .i64 (i : Int) := haft 6 (op_at ho (fun o => o.after.any fun e => decide (e.on = 6) && Region.binds .any e) (x := true) (by kernel_rfl))
  exact specs_value (R := sizeSpotS Wd b off n c A' n' c' T m cT i s X Y p N0 7) (v := .pointer (some ⟨b, off + i * 2, none⟩)) (by simp [execOp, hop, go_sem, ev e5, ev e6, hin]) rfl (Ext.refl W)
theorem touch5_op8 (hx : BathAt V p Wd (some ⟨b, off, none⟩) n c A' n' c' ss ds) (hin : i < n) (hXY : ss.getD i (0, 0) = (X, Y)) (ho : touchReg5[8]? = some o) (hB : Ext V W) (haft : ∀ j, (o.after.any fun e => decide (e.on = j) && Region.binds .any e) = true → sizeSpotS Wd b off n c A' n' c' T m cT i s X Y p N0 j (a.eval (.tmp (touchD5 j))) W) :
    (∀ j b, o.guard = some (j, b) → a.eval (.tmp (touchD5 j)) = .bool b) ∧ o.wp Try.prog a W (fun a'' W' => ∃ v, a'' = a.put o.dst v ∧ sizeSpotS Wd b off n c A' n' c' T m cT i s X Y p N0 8 v W' ∧ Below W.heap.size W W') Q := by
  have hop := op_at ho (·.op) (x := .load 74 (.tmp 31)) (by kernel_rfl)
  have hgd := op_at ho (·.guard) (x := none) (by kernel_rfl)
  refine ⟨fun j b h => (by rw [hgd] at h; cases h), ?_⟩
  have e7 : a.eval (.tmp 31) = .pointer (some ⟨b, off + i * 2, none⟩) := haft 7 (op_at ho (fun o => o.after.any fun e => decide (e.on = 7) && Region.binds .any e) (x := true) (by kernel_rfl))
  obtain ⟨b1, off1, hbb, d0, d1⟩ := (hx.ext hB).spot hin
  cases hbb
  rw [hXY] at d0 d1
  exact specs_value (R := sizeSpotS Wd b off n c A' n' c' T m cT i s X Y p N0 8) (v := .agg #[.int .i64 X, .int .i64 Y]) (by simp [execOp, hop, go_sem, ev e7, d0, d1]) rfl (Ext.refl W)
theorem touch5_op9 (hN : N0 ≤ V.heap.size) (ho : touchReg5[9]? = some o) (hB : Ext V W) (haft : ∀ j, (o.after.any fun e => decide (e.on = j) && Region.binds .any e) = true → sizeSpotS Wd b off n c A' n' c' T m cT i s X Y p N0 j (a.eval (.tmp (touchD5 j))) W) :
    (∀ j b, o.guard = some (j, b) → a.eval (.tmp (touchD5 j)) = .bool b) ∧ o.wp Try.prog a W (fun a'' W' => ∃ v, a'' = a.put o.dst v ∧ sizeSpotS Wd b off n c A' n' c' T m cT i s X Y p N0 9 v W' ∧ Below W.heap.size W W') Q := by
  have hop := op_at ho (·.op) (x := .alloc 74) (by kernel_rfl)
  have hgd := op_at ho (·.guard) (x := none) (by kernel_rfl)
  refine ⟨fun j b h => (by rw [hgd] at h; cases h), ?_⟩
  exact specs_value (R := sizeSpotS Wd b off n c A' n' c' T m cT i s X Y p N0 9) (v := .pointer (some ⟨W.heap.size, 0, none⟩)) (W' := W.alloc (.cells #[.int .i64 0, .int .i64 0] 74)) (by simp [execOp, hop, go_sem]) ⟨_, rfl, Nat.le_trans hN hB.size, row_last W _ _ rfl⟩ (ext_alloc W _)
theorem touch5_op10 (ho : touchReg5[10]? = some o) (hB : Ext V W) (haft : ∀ j, (o.after.any fun e => decide (e.on = j) && Region.binds .any e) = true → sizeSpotS Wd b off n c A' n' c' T m cT i s X Y p N0 j (a.eval (.tmp (touchD5 j))) W) :
    (∀ j b, o.guard = some (j, b) → a.eval (.tmp (touchD5 j)) = .bool b) ∧ o.wp Try.prog a W (fun a'' W' => ∃ v, a'' = a.put o.dst v ∧ sizeSpotS Wd b off n c A' n' c' T m cT i s X Y p N0 10 v W' ∧ Below W.heap.size W W') Q := by
  have hop := op_at ho (·.op) (x := .assign (.tmp 27)) (by kernel_rfl)
  have hgd := op_at ho (·.guard) (x := none) (by kernel_rfl)
  refine ⟨fun j b h => (by rw [hgd] at h; cases h), ?_⟩
  have e3 : a.eval (.tmp 27) = .int .i64 s := haft 3 (op_at ho (fun o => o.after.any fun e => decide (e.on = 3) && Region.binds .any e) (x := true) (by kernel_rfl))
  exact specs_value (R := sizeSpotS Wd b off n c A' n' c' T m cT i s X Y p N0 10) (v := .int .i64 s) (by simp [execOp, hop, go_sem, ev e3]) rfl (Ext.refl W)
theorem touch12_op0 (o4 : a.eval (.tmp 4) = .pointer (some ⟨p, 0, none⟩)) (hx : BathAt V p Wd (some ⟨b, off, none⟩) n c A' n' c' ss ds) (ho : touchReg12[0]? = some o) (hB : Ext V W) (haft : ∀ j, (o.after.any fun e => decide (e.on = j) && Region.binds .any e) = true → sizeSpotS Wd b off n c A' n' c' T m cT i s X Y p N0 j (a.eval (.tmp (touchD12 j))) W) :
    (∀ j b, o.guard = some (j, b) → a.eval (.tmp (touchD12 j)) = .bool b) ∧ o.wp Try.prog a W (fun a'' W' => ∃ v, a'' = a.put o.dst v ∧ sizeSpotS Wd b off n c A' n' c' T m cT i s X Y p N0 0 v W' ∧ Below W.heap.size W W') Q := by
  have hop := op_at ho (·.op) (x := .load 25 (.tmp 4)) (by kernel_rfl)
  have hgd := op_at ho (·.guard) (x := none) (by kernel_rfl)
  refine ⟨fun j b h => (by rw [hgd] at h; cases h), ?_⟩
  obtain ⟨q0, q1, q2⟩ := (hx.ext hB).cells
  exact specs_value (R := sizeSpotS Wd b off n c A' n' c' T m cT i s X Y p N0 0) (v := .agg #[.int .i64 Wd, .slice (some ⟨b, off, none⟩) n c, .slice A' n' c']) (by simp [execOp, hop, go_sem, ev o4, q0, q1, q2]) rfl (Ext.refl W)
theorem touch12_op1 (o1 : a.eval (.tmp 1) = .slice T m cT) (ho : touchReg12[1]? = some o) (hB : Ext V W) (haft : ∀ j, (o.after.any fun e => decide (e.on = j) && Region.binds .any e) = true → sizeSpotS Wd b off n c A' n' c' T m cT i s X Y p N0 j (a.eval (.tmp (touchD12 j))) W) :
    (∀ j b, o.guard = some (j, b) → a.eval (.tmp (touchD12 j)) = .bool b) ∧ o.wp Try.prog a W (fun a'' W' => ∃ v, a'' = a.put o.dst v ∧ sizeSpotS Wd b off n c A' n' c' T m cT i s X Y p N0 1 v W' ∧ Below W.heap.size W W') Q := by
  have hop := op_at ho (·.op) (x := .move (.tmp 1)) (by kernel_rfl)
  have hgd := op_at ho (·.guard) (x := none) (by kernel_rfl)
  refine ⟨fun j b h => (by rw [hgd] at h; cases h), ?_⟩
  exact specs_value (R := sizeSpotS Wd b off n c A' n' c' T m cT i s X Y p N0 1) (v := .slice T m cT) (by simp [execOp, hop, go_sem, ev o1]) rfl (Ext.refl W)
theorem touch12_op2 (ov : a.eval (.tmp 3) = .int .i64 (i : Int)) (ho : touchReg12[2]? = some o) (hB : Ext V W) (haft : ∀ j, (o.after.any fun e => decide (e.on = j) && Region.binds .any e) = true → sizeSpotS Wd b off n c A' n' c' T m cT i s X Y p N0 j (a.eval (.tmp (touchD12 j))) W) :
    (∀ j b, o.guard = some (j, b) → a.eval (.tmp (touchD12 j)) = .bool b) ∧ o.wp Try.prog a W (fun a'' W' => ∃ v, a'' = a.put o.dst v ∧ sizeSpotS Wd b off n c A' n' c' T m cT i s X Y p N0 2 v W' ∧ Below W.heap.size W W') Q := by
  have hop := op_at ho (·.op) (x := .move (.tmp 3)) (by kernel_rfl)
  have hgd := op_at ho (·.guard) (x := none) (by kernel_rfl)
  refine ⟨fun j b h => (by rw [hgd] at h; cases h), ?_⟩
  exact specs_value (R := sizeSpotS Wd b off n c A' n' c' T m cT i s X Y p N0 2) (v := .int .i64 (i : Int)) (by simp [execOp, hop, go_sem, ev ov]) rfl (Ext.refl W)
theorem touch12_op3 (hx : BathAt V p Wd (some ⟨b, off, none⟩) n c A' n' c' ss ds) (h100 : n' ≤ 100) (hm : m = ts.length) (hmn : n' ≤ m) (hmm : m ≤ 9223372036854775807) (ht : Held V V.heap.size 1 encI T ts) (hbd : ∀ k, 0 ≤ ts.getD k 0 ∧ ts.getD k 0 ≤ 10000) (hsum : sumAt ds ts i n' = s) (ho : touchReg12[3]? = some o) (hB : Ext V W) (haft : ∀ j, (o.after.any fun e => decide (e.on = j) && Region.binds .any e) = true → sizeSpotS Wd b off n c A' n' c' T m cT i s X Y p N0 j (a.eval (.tmp (touchD12 j))) W) :
    (∀ j b, o.guard = some (j, b) → a.eval (.tmp (touchD12 j)) = .bool b) ∧ o.wp Try.prog a W (fun a'' W' => ∃ v, a'' = a.put o.dst v ∧ sizeSpotS Wd b off n c A' n' c' T m cT i s X Y p N0 3 v W' ∧ Below W.heap.size W W') Q := by
  have hop := op_at ho (·.op) (x := .call { callee := .value (.func 45), args := #[.tmp 59, .tmp 60, .tmp 61], argTypes := #[25, 55, 3] }) (by kernel_rfl)
  have hgd := op_at ho (·.guard) (x := none) (by kernel_rfl)
  refine ⟨fun j b h => (by rw [hgd] at h; cases h), ?_⟩
  have e0 : a.eval (.tmp 59) = .agg #[.int .i64 Wd, .slice (some ⟨b, off, none⟩) n c, .slice A' n' c'] := haft 0 (op_at ho (fun o => o.after.any fun e => decide (e.on = 0) && Region.binds .any e) (x := true) (by kernel_rfl))
  have e1 : a.eval (.tmp 60) = .slice T m cT := haft 1 (op_at ho (fun o => o.after.any fun e => decide (e.on = 1) && Region.binds .any e) (x := true) (by kernel_rfl))
  have e2 : a.eval (.tmp 61) = .int .i64 (i : Int) := haft 2 (op_at ho (fun o => o.after.any fun e => decide (e.on = 2) && Region.binds .any e) (x := true) (by kernel_rfl))
  have hX := hx.ext hB
  have hc := sizeOf_ref (Wd := Wd) T m cT ts (i : Int) hX.bath h100 hm hmn hmm (ht.ext hB) hbd
  rw [hsum] at hc
  exact specs_call (R := sizeSpotS Wd b off n c A' n' c' T m cT i s X Y p N0 3) (f := 45) (args := #[.agg #[.int .i64 Wd, .slice (some ⟨b, off, none⟩) n c, .slice A' n' c'], .slice T m cT, .int .i64 (i : Int)]) (by simp [execOp, hop, go_sem, ev e0, ev e1, ev e2]) (hc.mono fun e w' h => ⟨_, h.1, rfl, h.2⟩)
theorem touch12_op4 (o4 : a.eval (.tmp 4) = .pointer (some ⟨p, 0, none⟩)) (ho : touchReg12[4]? = some o) (hB : Ext V W) (haft : ∀ j, (o.after.any fun e => decide (e.on = j) && Region.binds .any e) = true → sizeSpotS Wd b off n c A' n' c' T m cT i s X Y p N0 j (a.eval (.tmp (touchD12 j))) W) :
    (∀ j b, o.guard = some (j, b) → a.eval (.tmp (touchD12 j)) = .bool b) ∧ o.wp Try.prog a W (fun a'' W' => ∃ v, a'' = a.put o.dst v ∧ sizeSpotS Wd b off n c A' n' c' T m cT i s X Y p N0 4 v W' ∧ Below W.heap.size W W') Q := by
  have hop := op_at ho (·.op) (x := .fieldAddr 25 (.tmp 4) 1) (by kernel_rfl)
  have hgd := op_at ho (·.guard) (x := none) (by kernel_rfl)
  refine ⟨fun j b h => (by rw [hgd] at h; cases h), ?_⟩
  exact specs_value (R := sizeSpotS Wd b off n c A' n' c' T m cT i s X Y p N0 4) (v := .pointer (some ⟨p, 1, none⟩)) (by simp [execOp, hop, go_sem, ev o4]) rfl (Ext.refl W)
theorem touch12_op5 (o4 : a.eval (.tmp 4) = .pointer (some ⟨p, 0, none⟩)) (hx : BathAt V p Wd (some ⟨b, off, none⟩) n c A' n' c' ss ds) (ho : touchReg12[5]? = some o) (hB : Ext V W) (haft : ∀ j, (o.after.any fun e => decide (e.on = j) && Region.binds .any e) = true → sizeSpotS Wd b off n c A' n' c' T m cT i s X Y p N0 j (a.eval (.tmp (touchD12 j))) W) :
    (∀ j b, o.guard = some (j, b) → a.eval (.tmp (touchD12 j)) = .bool b) ∧ o.wp Try.prog a W (fun a'' W' => ∃ v, a'' = a.put o.dst v ∧ sizeSpotS Wd b off n c A' n' c' T m cT i s X Y p N0 5 v W' ∧ Below W.heap.size W W') Q := by
  have hop := op_at ho (·.op) (x := .load 22 (.tmp 63)) (by kernel_rfl)
  have hgd := op_at ho (·.guard) (x := none) (by kernel_rfl)
  refine ⟨fun j b h => (by rw [hgd] at h; cases h), ?_⟩
  obtain ⟨q0, q1, q2⟩ := (hx.ext hB).cells
  have e4 : a.eval (.tmp 63) = .pointer (some ⟨p, 1, none⟩) := haft 4 (op_at ho (fun o => o.after.any fun e => decide (e.on = 4) && Region.binds .any e) (x := true) (by kernel_rfl))
  exact specs_value (R := sizeSpotS Wd b off n c A' n' c' T m cT i s X Y p N0 5) (v := .slice (some ⟨b, off, none⟩) n c) (by simp [execOp, hop, go_sem, ev e4, q1]) rfl (Ext.refl W)
theorem touch12_op6 (ov : a.eval (.tmp 3) = .int .i64 (i : Int)) (ho : touchReg12[6]? = some o) (hB : Ext V W) (haft : ∀ j, (o.after.any fun e => decide (e.on = j) && Region.binds .any e) = true → sizeSpotS Wd b off n c A' n' c' T m cT i s X Y p N0 j (a.eval (.tmp (touchD12 j))) W) :
    (∀ j b, o.guard = some (j, b) → a.eval (.tmp (touchD12 j)) = .bool b) ∧ o.wp Try.prog a W (fun a'' W' => ∃ v, a'' = a.put o.dst v ∧ sizeSpotS Wd b off n c A' n' c' T m cT i s X Y p N0 6 v W' ∧ Below W.heap.size W W') Q := by
  have hop := op_at ho (·.op) (x := .move (.tmp 3)) (by kernel_rfl)
  have hgd := op_at ho (·.guard) (x := none) (by kernel_rfl)
  refine ⟨fun j b h => (by rw [hgd] at h; cases h), ?_⟩
  exact specs_value (R := sizeSpotS Wd b off n c A' n' c' T m cT i s X Y p N0 6) (v := .int .i64 (i : Int)) (by simp [execOp, hop, go_sem, ev ov]) rfl (Ext.refl W)
theorem touch12_op7 (hin : (i : Int) < (n : Int)) (ho : touchReg12[7]? = some o) (hB : Ext V W) (haft : ∀ j, (o.after.any fun e => decide (e.on = j) && Region.binds .any e) = true → sizeSpotS Wd b off n c A' n' c' T m cT i s X Y p N0 j (a.eval (.tmp (touchD12 j))) W) :
    (∀ j b, o.guard = some (j, b) → a.eval (.tmp (touchD12 j)) = .bool b) ∧ o.wp Try.prog a W (fun a'' W' => ∃ v, a'' = a.put o.dst v ∧ sizeSpotS Wd b off n c A' n' c' T m cT i s X Y p N0 7 v W' ∧ Below W.heap.size W W') Q := by
  have hop := op_at ho (·.op) (x := .indexAddr 22 (.tmp 64) (.tmp 65)) (by kernel_rfl)
  have hgd := op_at ho (·.guard) (x := none) (by kernel_rfl)
  refine ⟨fun j b h => (by rw [hgd] at h; cases h), ?_⟩
  have e5 : a.eval (.tmp 64) = .slice (some ⟨b, off, none⟩) n c := haft 5 (op_at ho (fun o => o.after.any fun e => decide (e.on = 5) && Region.binds .any e) (x := true) (by kernel_rfl))
  have e6 : a.eval (.tmp 65) = .int .i64 (i : Int) := haft 6 (op_at ho (fun o => o.after.any fun e => decide (e.on = 6) && Region.binds .any e) (x := true) (by kernel_rfl))
  exact specs_value (R := sizeSpotS Wd b off n c A' n' c' T m cT i s X Y p N0 7) (v := .pointer (some ⟨b, off + i * 2, none⟩)) (by simp [execOp, hop, go_sem, ev e5, ev e6, hin]) rfl (Ext.refl W)
theorem touch12_op8 (hx : BathAt V p Wd (some ⟨b, off, none⟩) n c A' n' c' ss ds) (hin : i < n) (hXY : ss.getD i (0, 0) = (X, Y)) (ho : touchReg12[8]? = some o) (hB : Ext V W) (haft : ∀ j, (o.after.any fun e => decide (e.on = j) && Region.binds .any e) = true → sizeSpotS Wd b off n c A' n' c' T m cT i s X Y p N0 j (a.eval (.tmp (touchD12 j))) W) :
    (∀ j b, o.guard = some (j, b) → a.eval (.tmp (touchD12 j)) = .bool b) ∧ o.wp Try.prog a W (fun a'' W' => ∃ v, a'' = a.put o.dst v ∧ sizeSpotS Wd b off n c A' n' c' T m cT i s X Y p N0 8 v W' ∧ Below W.heap.size W W') Q := by
  have hop := op_at ho (·.op) (x := .load 74 (.tmp 66)) (by kernel_rfl)
  have hgd := op_at ho (·.guard) (x := none) (by kernel_rfl)
  refine ⟨fun j b h => (by rw [hgd] at h; cases h), ?_⟩
  have e7 : a.eval (.tmp 66) = .pointer (some ⟨b, off + i * 2, none⟩) := haft 7 (op_at ho (fun o => o.after.any fun e => decide (e.on = 7) && Region.binds .any e) (x := true) (by kernel_rfl))
  obtain ⟨b1, off1, hbb, d0, d1⟩ := (hx.ext hB).spot hin
  cases hbb
  rw [hXY] at d0 d1
  exact specs_value (R := sizeSpotS Wd b off n c A' n' c' T m cT i s X Y p N0 8) (v := .agg #[.int .i64 X, .int .i64 Y]) (by simp [execOp, hop, go_sem, ev e7, d0, d1]) rfl (Ext.refl W)
theorem touch12_op9 (hN : N0 ≤ V.heap.size) (ho : touchReg12[9]? = some o) (hB : Ext V W) (haft : ∀ j, (o.after.any fun e => decide (e.on = j) && Region.binds .any e) = true → sizeSpotS Wd b off n c A' n' c' T m cT i s X Y p N0 j (a.eval (.tmp (touchD12 j))) W) :
    (∀ j b, o.guard = some (j, b) → a.eval (.tmp (touchD12 j)) = .bool b) ∧ o.wp Try.prog a W (fun a'' W' => ∃ v, a'' = a.put o.dst v ∧ sizeSpotS Wd b off n c A' n' c' T m cT i s X Y p N0 9 v W' ∧ Below W.heap.size W W') Q := by
  have hop := op_at ho (·.op) (x := .alloc 74) (by kernel_rfl)
  have hgd := op_at ho (·.guard) (x := none) (by kernel_rfl)
  refine ⟨fun j b h => (by rw [hgd] at h; cases h), ?_⟩
  exact specs_value (R := sizeSpotS Wd b off n c A' n' c' T m cT i s X Y p N0 9) (v := .pointer (some ⟨W.heap.size, 0, none⟩)) (W' := W.alloc (.cells #[.int .i64 0, .int .i64 0] 74)) (by simp [execOp, hop, go_sem]) ⟨_, rfl, Nat.le_trans hN hB.size, row_last W _ _ rfl⟩ (ext_alloc W _)
theorem touch12_op10 (ho : touchReg12[10]? = some o) (hB : Ext V W) (haft : ∀ j, (o.after.any fun e => decide (e.on = j) && Region.binds .any e) = true → sizeSpotS Wd b off n c A' n' c' T m cT i s X Y p N0 j (a.eval (.tmp (touchD12 j))) W) :
    (∀ j b, o.guard = some (j, b) → a.eval (.tmp (touchD12 j)) = .bool b) ∧ o.wp Try.prog a W (fun a'' W' => ∃ v, a'' = a.put o.dst v ∧ sizeSpotS Wd b off n c A' n' c' T m cT i s X Y p N0 10 v W' ∧ Below W.heap.size W W') Q := by
  have hop := op_at ho (·.op) (x := .assign (.tmp 62)) (by kernel_rfl)
  have hgd := op_at ho (·.guard) (x := none) (by kernel_rfl)
  refine ⟨fun j b h => (by rw [hgd] at h; cases h), ?_⟩
  have e3 : a.eval (.tmp 62) = .int .i64 s := haft 3 (op_at ho (fun o => o.after.any fun e => decide (e.on = 3) && Region.binds .any e) (x := true) (by kernel_rfl))
  exact specs_value (R := sizeSpotS Wd b off n c A' n' c' T m cT i s X Y p N0 10) (v := .int .i64 s) (by simp [execOp, hop, go_sem, ev e3]) rfl (Ext.refl W)
end
end Go.Proofs.Ytgdpgdnhhjclcaa
