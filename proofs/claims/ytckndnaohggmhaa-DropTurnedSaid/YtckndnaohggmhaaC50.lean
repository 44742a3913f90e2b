/- Texts of the package drop, joined: ToldEnd. -/
import Derived.Test.YtckndnaohggmhaaC28
import Derived.Test.YtckndnaohggmhaaC49
/- DropTold: what lies between two drops, and which are the first on their spots, told step by step. -/
namespace Go.Proofs.Ytckndnaohggmhaa
open Go.RowKit Go.Shelf

def betweenTo (ds : List (Int × Int × Int)) (d mn mx k : Nat) : Bool := (List.range k).any fun i => decide (spotAt ds i = spotAt ds d) && (decide (mn < i) && decide (i < mx))
theorem betweenTo_succ (ds : List (Int × Int × Int)) (d mn mx k : Nat) : betweenTo ds d mn mx (k + 1) = (betweenTo ds d mn mx k || (decide (spotAt ds k = spotAt ds d) && (decide (mn < k) && decide (k < mx)))) := by
  unfold betweenTo
  rw [List.range_succ, List.any_append]
  simp
def firstsTo (ds : List (Int × Int × Int)) (d f k : Nat) : Bool := (List.range k).all fun i => !(decide (spotAt ds i = spotAt ds d) && decide (i < d)) && !(decide (spotAt ds i = spotAt ds f) && decide (i < f))
theorem firstsTo_succ (ds : List (Int × Int × Int)) (d f k : Nat) : firstsTo ds d f (k + 1) = (firstsTo ds d f k && (!(decide (spotAt ds k = spotAt ds d) && decide (k < d)) && !(decide (spotAt ds k = spotAt ds f) && decide (k < f)))) := by
  unfold firstsTo
  rw [List.range_succ, List.all_append]
  simp
theorem betweenTo_end (ds : List (Int × Int × Int)) (d mn mx k : Nat) (h : mx ≤ k) : betweenTo ds d mn mx k = !((List.range mx).all fun i => !(decide (mn < i) && decide (spotAt ds i = spotAt ds d))) := by
  rw [Bool.eq_iff_iff]
  unfold betweenTo
  rw [Bool.not_eq_true', List.all_eq_false, List.any_eq_true]
  constructor
  · rintro ⟨i, _, hi2⟩
    simp only [Bool.and_eq_true, decide_eq_true_eq] at hi2
    exact ⟨i, List.mem_range.2 hi2.2.2, by simp [hi2.1, hi2.2.1]⟩
  · rintro ⟨i, hi, hi2⟩
    have hlt := List.mem_range.1 hi
    simp only [Bool.not_eq_true', Bool.not_eq_false, Bool.and_eq_true, decide_eq_true_eq] at hi2
    exact ⟨i, List.mem_range.2 (by omega), by simp [hi2.1, hi2.2, hlt]⟩
theorem firstsTo_end (ds : List (Int × Int × Int)) (d f k : Nat) (hd : d ≤ k) (hf : f ≤ k) : firstsTo ds d f k = (firstB ds d && firstB ds f) := by
  rw [Bool.eq_iff_iff]
  unfold firstsTo firstB
  simp only [List.all_eq_true, Bool.and_eq_true, List.mem_range, Bool.not_eq_true', Bool.and_eq_false_iff, decide_eq_false_iff_not]
  constructor
  · intro h
    refine ⟨fun i hi => ?_, fun i hi => ?_⟩
    · rcases (h i (by omega)).1 with h1 | h1
      · exact h1
      · exact absurd hi h1
    · rcases (h i (by omega)).2 with h1 | h1
      · exact h1
      · exact absurd hi h1
  · intro h i _
    refine ⟨?_, ?_⟩
    · by_cases hi : i < d
      · exact .inl (h.1 i hi)
      · exact .inr hi
    · by_cases hi : i < f
      · exact .inl (h.2 i hi)
      · exact .inr hi

/-- What Beside answers of two different drops, by either order. -/
theorem besideAns_ok {Wd : Int} {ss : List (Int × Int)} {ds : List (Int × Int × Int)} (h0 : bathErr Wd ss ds = 0) {k l : Nat} (hk : k < ds.length) (hl : l < ds.length) (hne : k ≠ l) : besideAns Wd ss ds k l = (besideR Wd ss ds (min k l) (max k l) k l, 0) := by
  unfold besideAns
  rw [if_pos h0]
  rcases Nat.lt_or_gt_of_ne hne with h | h
  · rw [Int.min_eq_left (by omega), Int.max_eq_right (by omega), if_neg (by omega), Int.toNat_natCast, Int.toNat_natCast, ← besideR_kind h hl, Nat.min_eq_left (by omega), Nat.max_eq_right (by omega)]
  · rw [Int.min_eq_right (by omega), Int.max_eq_left (by omega), if_neg (by omega), Int.toNat_natCast, Int.toNat_natCast, ← besideR_kind h hk, besideR_comm, Nat.min_eq_right (by omega), Nat.max_eq_left (by omega)]

theorem sizeAns_ok {Wd : Int} {ss : List (Int × Int)} {ds : List (Int × Int × Int)} (h0 : bathErr Wd ss ds = 0) {i : Nat} (hi : i < ss.length) : sizeAns Wd ss ds i = (sizes ds i, 0) := by
  unfold sizeAns
  rw [if_pos h0, if_pos (by simp; omega), Int.toNat_natCast]
theorem touchAns_ok {Wd : Int} {ss : List (Int × Int)} {ds : List (Int × Int × Int)} {one two : Int} (h0 : bathErr Wd ss ds = 0) (hne : one ≠ two) (h1 : -2 ≤ one ∧ one < (ss.length : Int)) (h2 : -2 ≤ two ∧ two < (ss.length : Int)) : touchAns Wd ss ds one two = (kindOf Wd ss (sizes ds) one two, 0) := by
  have hf : forErr Wd ss ds one two = 0 := by
    unfold forErr
    rw [if_pos h0, if_pos ⟨hne, by simp [h1.1, h1.2], by simp [h2.1, h2.2]⟩]
  unfold touchAns
  rw [if_pos hf]
end Go.Proofs.Ytckndnaohggmhaa
