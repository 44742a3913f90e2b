/- Texts of the package drop, joined: RefSide. -/
import Derived.Test.YtckndnaohggmhaaC37
import Derived.Test.YtckndnaohggmhaaC38
import Derived.Test.YtckndnaohggmhaaC40
import Derived.Deep.Cut
/- The reference's Side; what Side answers, as a list and an error. -/
namespace Go.Proofs.Ytckndnaohggmhaa
open Go.RowKit Go.Shelf

theorem goesC_beyond {H : Nat → Nat → Bool} {n k : Nat} (hHn : ∀ i j, H i j = true → i < n ∧ j < n ∧ i ≠ j) (hk : k < n) (i : Nat) (hi : n ≤ i) : goesC H n k i = false := by
  unfold goesC
  rw [decide_eq_false_iff_not]
  intro h
  rcases outs_back _ _ h with ⟨e, _⟩ | ⟨j, _, _, hH, _⟩
  · omega
  · exact absurd (hHn _ _ hH).1 (by omega)
theorem listTo_beyond {M : Nat → Bool} {m : Nat} (hM : ∀ i, m ≤ i → M i = false) : ∀ d, listTo M (m + d) = listTo M m
  | 0 => rfl
  | d + 1 => by
    rw [← Nat.add_assoc, listTo_succ, hM _ (by omega), listTo_beyond hM d]
    simp
theorem mem_listTo {M : Nat → Bool} {m k : Nat} : ((k : Int) - 2) ∈ listTo M m ↔ k < m ∧ M k = true := by
  unfold listTo
  rw [List.mem_filterMap]
  constructor
  · rintro ⟨i, hi, h⟩
    by_cases hM : M i = true
    · rw [if_pos hM] at h
      simp only [Option.some.injEq] at h
      obtain rfl : i = k := by omega
      exact ⟨List.mem_range.1 hi, hM⟩
    · rw [if_neg hM] at h; cases h
  · rintro ⟨h1, h2⟩
    exact ⟨k, List.mem_range.2 h1, by rw [if_pos h2]⟩

/-- What Side answers. -/
def sideAns (Wd : Int) (ss : List (Int × Int)) (ds : List (Int × Int × Int)) (one two : Int) (sure : Bool) : List Int × Int :=
  if forErr Wd ss ds one two ≠ 0 then ([], forErr Wd ss ds one two)
  else if goesC (tableOf Wd ss ds sure) (ss.length + 2) (one + 2).toNat (two + 2).toNat = true then ([], 11)
  else (listTo (goesC (tableOf Wd ss ds sure) (ss.length + 2) (one + 2).toNat) (ss.length + 2), 0)
theorem sideAns_len (Wd : Int) (ss : List (Int × Int)) (ds : List (Int × Int × Int)) (one two : Int) (sure : Bool) (h : ss.length ≤ 10 ∨ forErr Wd ss ds one two ≠ 0) : (sideAns Wd ss ds one two sure).1.length ≤ 12 := by
  unfold sideAns
  split
  · simp
  · rename_i h1
    split
    · simp
    · rcases h with h | h
      · exact Nat.le_trans (listTo_length _ _) (by omega)
      · exact absurd h h1
/-- A list and an error, the list in memory. -/
def ListVal (ans : List Int × Int) (w : World) (e : Ending) (w' : World) : Prop :=
  ∃ A c, e = .returned (.tuple #[.slice A ans.1.length c, .int .i64 ans.2]) ∧ Held w' w'.heap.size 1 encI A ans.1 ∧ Ext w w'
theorem listVal_made {ans : List Int × Int} {w w' : World} {v : Value} {base : Nat} (h : MadeInts base ans.1 w' v) (hE : Ext w w') : ListVal ans w (.returned (.tuple #[v, .int .i64 ans.2])) w' := by
  obtain ⟨A2, c2, rfl, _, hH⟩ := madeInts_held h
  exact ⟨A2, c2, rfl, hH, hE⟩

section
variable {w : World} {Wd : Int} {A : Option Addr} {n c : Nat} {A' : Option Addr} {n' c' : Nat} {ss : List (Int × Int)} {ds : List (Int × Int × Int)}

theorem side_prog (one two : Int) (sure : Bool) (hb : IsBath w w.heap.size A n c A' n' c' ss ds) :
    Calls Try.prog 34 #[.agg #[.int .i64 Wd, .slice A n c, .slice A' n' c'], .int .i64 one, .int .i64 two, .bool sure] w (ListVal (sideAns Wd ss ds one two sure) w) := by
  refine (side_any (Wd := Wd) one two sure hb).mono ?_
  rintro e w' ⟨hE, h | h⟩
  · have ha : sideAns Wd ss ds one two sure = ([], forErr Wd ss ds one two) := by unfold sideAns; rw [if_pos h.1]
    rw [ha]
    exact ⟨none, 0, h.2, .inl rfl, hE⟩
  · obtain ⟨he, M, hM, hor⟩ := h
    obtain ⟨h0, h1, h2, h3⟩ := forErr_ok he
    have hn10 := (bath_ok h0).2.1.1
    have eM := marked_reach hM
    have hT := goesB_goesC (H := tableOf Wd ss ds sure) (n := ss.length + 2) (k := (one + 2).toNat) (by omega) (by omega) tableOf_lt tableOf_sym (by omega)
    rw [hT] at eM
    rw [eM] at hor
    rcases hor with ⟨h4, h5⟩ | ⟨h4, v, h5, h6⟩
    · have ha : sideAns Wd ss ds one two sure = ([], 11) := by unfold sideAns; rw [if_neg (by simp [he]), if_pos h4]
      rw [ha]
      exact ⟨none, 0, h5, .inl rfl, hE⟩
    · have ha : sideAns Wd ss ds one two sure = (listTo (goesC (tableOf Wd ss ds sure) (ss.length + 2) (one + 2).toNat) (ss.length + 2), 0) := by unfold sideAns; rw [if_neg (by simp [he]), if_neg (by simp [h4])]
      have hl := listTo_beyond (M := goesC (tableOf Wd ss ds sure) (ss.length + 2) (one + 2).toNat) (m := ss.length + 2) (goesC_beyond tableOf_lt (by omega)) (12 - (ss.length + 2))
      rw [show ss.length + 2 + (12 - (ss.length + 2)) = 12 from by omega] at hl
      rw [hl] at h6
      rw [ha, h5]
      exact listVal_made (ans := (listTo (goesC (tableOf Wd ss ds sure) (ss.length + 2) (one + 2).toNat) (ss.length + 2), 0)) h6 hE

set_option maxRecDepth 100000 in
set_option maxHeartbeats 2000000 in
theorem side_ref (one two : Int) (sure : Bool) (hb : IsBath w w.heap.size A n c A' n' c' ss ds) :
    Calls Try.prog 35 #[.agg #[.int .i64 Wd, .slice A n c, .slice A' n' c'], .int .i64 one, .int .i64 two, .bool sure] w (ListVal (sideAns Wd ss ds one two sure) w) := by
  have hX0 : BathAt (w.alloc (.cells #[.int .i64 Wd, .slice A n c, .slice A' n' c'] 25)) w.heap.size Wd A n c A' n' c' ss ds := BathAt.new hb
  have hE0 : Ext w (w.alloc (.cells #[.int .i64 Wd, .slice A n c, .slice A' n' c'] 25)) := ext_alloc w _
  have cP : ∀ W : World, IsBath W W.heap.size A n c A' n' c' ss ds → _ := fun W h => places_ref (Wd := Wd) one two h
  by_cases he : forErr Wd ss ds one two = 0
  · obtain ⟨h0, h1, h2, h3⟩ := forErr_ok he
    have hn10 := (bath_ok h0).2.1.1
    obtain ⟨k1, hk1⟩ := Int.eq_ofNat_of_zero_le (show 0 ≤ one + 2 by omega)
    obtain ⟨k2, hk2⟩ := Int.eq_ofNat_of_zero_le (show 0 ≤ two + 2 by omega)
    have cJ : ∀ W : World, IsBath W W.heap.size A n c A' n' c' ss ds → _ := fun W h => joined_ref (Wd := Wd) k1 sure h0 h (by omega) one (by omega)
    rw [he] at cP
    have e1 : (one + 2).toNat = k1 := by omega
    have e2 : (two + 2).toNat = k2 := by omega
    have hans : sideAns Wd ss ds one two sure = if goesC (tableOf Wd ss ds sure) (ss.length + 2) k1 k2 = true then ([], 11) else (listTo (goesC (tableOf Wd ss ds sure) (ss.length + 2) k1) (ss.length + 2), 0) := by
      unfold sideAns
      rw [if_neg (by simp [he]), e1, e2]
    have hmem : two ∈ listTo (goesC (tableOf Wd ss ds sure) (ss.length + 2) k1) (ss.length + 2) ↔ goesC (tableOf Wd ss ds sure) (ss.length + 2) k1 k2 = true := by
      rw [show two = (k2 : Int) - 2 from by omega, mem_listTo]
      exact ⟨fun h => h.2, fun h => ⟨by omega, h⟩⟩
    have hlen : (listTo (goesC (tableOf Wd ss ds sure) (ss.length + 2) k1) (ss.length + 2)).length ≤ 12 := Nat.le_trans (listTo_length _ _) (by omega)
    obtain ⟨l, hl⟩ : ∃ l, listTo (goesC (tableOf Wd ss ds sure) (ss.length + 2) k1) (ss.length + 2) = l := ⟨_, rfl⟩
    rw [hl] at hans hmem hlen cJ
    obtain ⟨ans, ha⟩ : ∃ ans, sideAns Wd ss ds one two sure = ans := ⟨_, rfl⟩
    rw [ha] at hans ⊢
    have HLEN := Lib.hid hlen
    cases hg : goesC (tableOf Wd ss ds sure) (ss.length + 2) k1 k2 with
    | true =>
      rw [hg] at hans hmem
      have hin : decide (two ∈ l) = true := by simp [hmem]
      have HIN := Lib.hid hin
      obtain rfl : ans = ([], 11) := by rw [hans]; rfl
      clear hg hans hmem ha hl e1 e2 hk1 hk2 h1 h2 h3 h0 he hlen hin hb hn10
      go_enter Try.func35, Try.ntmps35
      go_wp2_with fail
      refine (cP _ hX0.bath).mono ?_
      rintro e w1 ⟨rfl, hb1⟩
      have hX1 := hX0.ext hb1
      have hE1 := hE0.trans hb1
      clear hX0 hE0 hb1
      obtain ⟨q0, q1, q2⟩ := hX1.cells
      go_wp2_with fail
      refine (cJ _ hX1.bath).mono ?_
      rintro e w2 ⟨v, rfl, hO, hb2⟩
      obtain ⟨A2, c2, rfl, hc2, hH⟩ := madeInts_held hO
      have hE2 := Lib.hid (hE1.trans hb2)
      have cI := in_ref A2 l.length c2 l two w2 rfl (by have := HLEN.out; omega) hH
      rw [HIN.out] at cI
      clear hX1 hE1 hb2 q0 q1 q2 cP cJ hO hH hc2
      go_wp2_with (go_at_call 100; refine cI.mono ?_; rintro e w3 ⟨rfl, rfl⟩)
      go_ret2
      exact ⟨none, 0, rfl, .inl rfl, hE2.out⟩
    | false =>
      rw [hg] at hans hmem
      have hin : decide (two ∈ l) = false := by simp [hmem]
      have HIN := Lib.hid hin
      obtain rfl : ans = (l, 0) := by rw [hans]; rfl
      clear hg hans hmem ha hl e1 e2 hk1 hk2 h1 h2 h3 h0 he hlen hin hb hn10
      go_enter Try.func35, Try.ntmps35
      go_wp2_with fail
      refine (cP _ hX0.bath).mono ?_
      rintro e w1 ⟨rfl, hb1⟩
      have hX1 := hX0.ext hb1
      have hE1 := hE0.trans hb1
      clear hX0 hE0 hb1
      obtain ⟨q0, q1, q2⟩ := hX1.cells
      go_wp2_with fail
      refine (cJ _ hX1.bath).mono ?_
      rintro e w2 ⟨v, rfl, hO, hb2⟩
      obtain ⟨A2, c2, rfl, hc2, hH⟩ := madeInts_held hO
      have hE2 := Lib.hid (hE1.trans hb2)
      have HH := Lib.hid hH
      have cI := in_ref A2 l.length c2 l two w2 rfl (by have := HLEN.out; omega) hH
      rw [HIN.out] at cI
      clear hX1 hE1 hb2 q0 q1 q2 cP cJ hO hH hc2
      go_wp2_with (go_at_call 100; refine cI.mono ?_; rintro e w3 ⟨rfl, rfl⟩)
      go_ret2
      exact ⟨A2, c2, rfl, HH.out, hE2.out⟩
  · have ha : sideAns Wd ss ds one two sure = ([], forErr Wd ss ds one two) := by unfold sideAns; rw [if_pos he]
    rw [ha]
    generalize forErr Wd ss ds one two = r at he cP ⊢
    have hne2 : (r != 0) = true := by simpa using he
    clear hb ha he
    go_enter Try.func35, Try.ntmps35
    go_wp2_with fail
    refine (cP _ hX0.bath).mono ?_
    rintro e w1 ⟨rfl, hb1⟩
    have hX1 := hX0.ext hb1
    have hE1 := Lib.hid (hE0.trans hb1)
    clear hX0 hE0 hb1
    obtain ⟨q0, q1, q2⟩ := hX1.cells
    go_wp2_with fail
    refine (cP _ hX1.bath).mono ?_
    rintro e w2 ⟨rfl, hb2⟩
    have hE2 := Lib.hid (hE1.out.trans hb2)
    clear hX1 hE1 hb2 q0 q1 q2 cP
    go_wp2
    go_ret2
    exact ⟨none, 0, rfl, .inl rfl, hE2.out⟩
end
end Go.Proofs.Ytckndnaohggmhaa
