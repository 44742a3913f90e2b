/- Texts of one package, joined: Twice. -/
import Derived.Test.YtlaakmgdbhabfaaC2
import Derived.Laws.StructEq
/- twice, both instances: whether two elements are equal. -/
namespace Go.Proofs.Ytlaakmgdbhabfaa
open Go.RowKit Go.Shelf

theorem twice_yes {α : Type} [DecidableEq α] (xs : List α) (k : Nat) (hk : k < xs.length) (h : xs.findIdx (fun y => decide (xs[k] = y)) < k) : xs.Nodup = False := by
  apply eq_false
  intro hn
  have hl : xs.findIdx (fun y => decide (xs[k] = y)) < xs.length := by omega
  have := List.findIdx_getElem (w := hl)
  have he : xs[k] = xs[xs.findIdx (fun y => decide (xs[k] = y))] := by simpa using this
  exact (List.pairwise_iff_getElem.1 hn) _ k hl hk h he.symm

theorem twice_no {α : Type} [DecidableEq α] (xs : List α) (h : ∀ k (hk : k < xs.length), ¬ xs.findIdx (fun y => decide (xs[k] = y)) < k) : xs.Nodup := by
  unfold List.Nodup
  rw [List.pairwise_iff_getElem]
  intro i j hi hj hij he
  apply h j hj
  apply Nat.lt_of_le_of_lt ?_ hij
  apply Nat.le_of_not_lt
  intro hlt
  have := List.not_of_lt_findIdx (p := fun y => decide (xs[j] = y)) (xs := xs) hlt
  simp [he] at this

theorem eqRow (x y : Int × Int) (w : World) : (binOp .eql 27 (.agg #[.int .i64 x.1, .int .i64 x.2]) (.agg #[.int .i64 y.1, .int .i64 y.2])).run Try.prog w = .ok (.bool (decide (x = y))) w := by
  have u2 := Try.underlying2
  have a2 := Try.isAgg2
  have z2 := Try.sizeOf2
  have hS : Try.prog.underlying 27 = some (.struct (Try.prog.fieldsOf 27)) := by kernel_rfl
  have hp : Try.prog.stoodInHeld 27 = false := by kernel_rfl
  rw [run_eql_struct, show (10000 : Nat) = 9999 + 1 from rfl, run_equalIn_agg w 9999 27 _ _ hS hp]
  simp only [Program.fieldsOf, Try.underlying27]
  go_simp
  obtain ⟨x1, x2⟩ := x
  obtain ⟨y1, y2⟩ := y
  by_cases h1 : x1 = y1 <;> by_cases h2 : x2 = y2 <;> simp [h1, h2]

set_option maxHeartbeats 400000 in
theorem sameRow (y : Int × Int) (B : Nat) (xs : List (Int × Int)) (w : World) (hB : B < w.heap.size) (hc : w.cell? ⟨B, 0, none⟩ = some (.int .i64 y.1)) (hc1 : w.cell? ⟨B, 1, none⟩ = some (.int .i64 y.2)) :
    PredOn 104 #[.pointer (some ⟨B, 0, none⟩)] (fun x => .agg (encS x).toArray) (fun x => decide (y = x)) xs w := fun W x hx hb => by
  have hc' : W.cell? ⟨B, 0, none⟩ = some (.int .i64 y.1) := (hb.cell (p := ⟨B, 0, none⟩) hB).trans hc
  have hc1' : W.cell? ⟨B, 1, none⟩ = some (.int .i64 y.2) := (hb.cell (p := ⟨B, 1, none⟩) hB).trans hc1
  have hBW : B < W.heap.size := Nat.lt_of_lt_of_le hB hb.size
  have hne : B ≠ W.heap.size := by omega
  show Calls Try.prog 104 #[.agg #[.int .i64 x.1, .int .i64 x.2], .pointer (some ⟨B, 0, none⟩)] W fun e w' => e = .returned (.bool (decide (y = x))) ∧ Below W.heap.size W w'
  have he := eqRow y x
  go_enter Try.func104, Try.ntmps104
  go_wp2
  go_ret
  exact ⟨rfl, (Below.refl _ W).alloc (Nat.le_refl _) _⟩

set_option maxHeartbeats 400000 in
theorem twiceRow (A : Option Addr) (n c : Nat) (xs : List (Int × Int)) (w : World) (hnn : n = xs.length)
    (hn : n ≤ 9223372036854775807) (hh : Held w w.heap.size 2 encS A xs) :
    Calls Try.prog 81 #[.slice A n c] w fun e w' => e = .returned (.bool (!decide xs.Nodup)) ∧ Below w.heap.size w w' := by
  have e2 : ∀ args w, (callFunc 104 args).run Try.prog w = .ok (.enter 104 args) w := enters_of Try.func104 (by kernel_rfl) rfl
  have HN := Lib.hid hnn; clear hnn
  go_enter Try.func81, Try.ntmps81
  go_wp2
  go_loopw [3, 4, 7] (fun _ _ i wr => ∃ k : Nat, k ≤ n ∧ i = .int .i64 k ∧ Hid (Below w.heap.size w wr) ∧ Hid (∀ j (hj : j < k) (hl : j < xs.length), ¬ xs.findIdx (fun y => decide (xs[j] = y)) < j)) (fun _ _ i _ => n - (intOf i).toNat)
  case atStart => exact ⟨0, Nat.zero_le _, rfl, Lib.hid (Below.refl _ _), Lib.hid (fun j hj => absurd hj (Nat.not_lt_zero _))⟩
  case round =>
    obtain ⟨k, hk, rfl, hB, hA⟩ := hrel
    by_cases hlt : k < n
    · have hltz : (k : Int) < (n : Int) := by omega
      have hkl : k < xs.length := by rw [← HN.out]; exact hlt
      obtain ⟨x, hx⟩ : ∃ x, x = xs[k] := ⟨_, rfl⟩
      have hcell : ∃ b off, A = some ⟨b, off, none⟩ ∧ wr.cell? ⟨b, off + k * 2, none⟩ = some (.int .i64 x.1) ∧ wr.cell? ⟨b, off + k * 2 + 1, none⟩ = some (.int .i64 x.2) := by
        rcases hh with h | ⟨b, off, rfl, hlt', hc⟩
        · simp [h] at hkl
        · refine ⟨b, off, rfl, ?_, ?_⟩
          · have h2 := (hB.out.cell (p := ⟨b, off + k * 2 + 0, none⟩) hlt').trans (hc k x (by rw [hx]; exact List.getElem?_eq_getElem hkl) 0 _ rfl)
            simpa using h2
          · have h2 := (hB.out.cell (p := ⟨b, off + k * 2 + 1, none⟩) hlt').trans (hc k x (by rw [hx]; exact List.getElem?_eq_getElem hkl) 1 _ rfl)
            simpa using h2
      have hcon := firstRow 104 #[.pointer (some ⟨wr.heap.size, 0, none⟩)] e2 (fun y => decide (x = y)) A n c xs (wr.alloc (.cells #[.int .i64 x.1, .int .i64 x.2] 27)) HN.out hn
        ((hh.kept (hB.out.alloc hB.out.size _) (Nat.le_refl _)).wider (by have := hB.out.size; simp; omega)) (sameRow x wr.heap.size xs _ (by simp) (by simp) (by simp))
      obtain ⟨b, off, rfl, hcell0, hcell1⟩ := hcell
      have HR : Hid (xs.findIdx (fun y => decide (xs[k] = y)) = xs.findIdx (fun y => decide (x = y))) := by rw [hx]; exact Lib.hid rfl
      have HX := Lib.hid hx; clear hx hh
      have hfl : xs.findIdx (fun y => decide (x = y)) ≤ n := by rw [HN.out]; exact List.findIdx_le_length
      generalize xs.findIdx (fun y => decide (x = y)) = r at hcon HR hfl
      by_cases hrk : r < k
      · have hrz : (r : Int) < (k : Int) := by omega
        go_wp2_with (go_at_call 87; refine hcon.mono ?_; rintro e w' ⟨rfl, hb'⟩)
        go_ret
        refine ⟨ret_bool ?_, bstep (hB.out.alloc hB.out.size _) (by have := hB.out.size; simp; omega) hb'⟩
        have := twice_yes xs k hkl (by rw [HR.out]; exact hrk)
        simp [this]
      · have hrz : ¬ (r : Int) < (k : Int) := by omega
        go_wp2_with (go_at_call 87; refine hcon.mono ?_; rintro e w' ⟨rfl, hb'⟩)
        go_roundw
        case measure => simp [intOf]; omega
        case rel =>
          refine ⟨k + 1, by omega, by go_num, Lib.hid (bstep (hB.out.alloc hB.out.size _) (by have := hB.out.size; simp; omega) hb'), Lib.hid fun j hj hl => ?_⟩
          by_cases e : j = k
          · subst e
            rw [HR.out]; exact hrk
          · exact hA.out j (by omega) hl
    · have hltz : ¬ (k : Int) < (n : Int) := by omega
      have : k = n := by omega
      subst this
      go_wp2
      go_ret
      refine ⟨ret_bool ?_, hB.out⟩
      have := twice_no xs (fun j hj => hA.out j (by rw [HN.out]; exact hj) hj)
      simp [this]

end Go.Proofs.Ytlaakmgdbhabfaa
