/- Texts of the package drop, joined: RefIn. -/
import Derived.Test.YtckndnaohggmhaaC14
/- The reference's In: whether a list has a number. -/
namespace Go.Proofs.Ytckndnaohggmhaa
open Go.RowKit Go.Shelf

set_option maxHeartbeats 400000 in
theorem in_ref (A : Option Addr) (n c : Nat) (xs : List Int) (x : Int) (w : World) (hnn : n = xs.length) (hn : n ≤ 9223372036854775807) (hh : Held w w.heap.size 1 encI A xs) :
    Calls Try.prog 100 #[.slice A n c, .int .i64 x] w fun e w' => e = .returned (.bool (decide (x ∈ xs))) ∧ w' = w := by
  have HN := Lib.hid hnn
  obtain ⟨ans, hans⟩ : ∃ ans, decide (x ∈ xs) = ans := ⟨_, rfl⟩
  rw [hans]
  have HA := Lib.hid hans
  clear hnn hans
  go_enter Try.func100, Try.ntmps100
  go_wp2
  go_loop [4, 5] (fun _ i => ∃ k : Nat, k ≤ n ∧ i = .int .i64 k ∧ Hid (∀ j, j < k → ∀ h : j < xs.length, xs[j] ≠ x)) (fun _ i => n - (intOf i).toNat)
  case atStart => exact ⟨0, Nat.zero_le _, rfl, Lib.hid (fun j hj => absurd hj (by omega))⟩
  case round =>
    obtain ⟨k, hk, rfl, hA⟩ := hrel
    by_cases hlt : k < n
    · have hltz : (k : Int) < (n : Int) := by omega
      have hkx : k < xs.length := by rw [← HN.out]; exact hlt
      obtain ⟨b, off, rfl, hc⟩ := held_get hh (Below.refl _ w) hkx
      obtain ⟨y, hy⟩ : ∃ y, xs[k] = y := ⟨_, rfl⟩
      rw [hy] at hc
      have HY := Lib.hid hy
      clear hy hh
      by_cases hxy : y = x
      · have hxy2 : (y == x) = true := by simp [hxy]
        obtain rfl : ans = true := by
          rw [← HA.out, decide_eq_true_eq, ← hxy, ← HY.out]
          exact List.getElem_mem hkx
        clear hxy
        go_wp2
        go_ret
        exact ⟨rfl, rfl⟩
      · have hxy2 : (y == x) = false := by simp [hxy]
        have hA1 : Hid (∀ j, j < k + 1 → ∀ h : j < xs.length, xs[j] ≠ x) := Lib.hid fun j hj h => by
          by_cases e : j = k
          · subst e
            rw [HY.out]
            exact hxy
          · exact hA.out j (by omega) h
        clear hxy hA
        go_wp2
        go_round
        case measure => simp [intOf]; omega
        case rel => exact ⟨k + 1, by omega, by go_num, hA1⟩
    · have hltz : ¬ (k : Int) < (n : Int) := by omega
      obtain rfl : ans = false := by
        rw [← HA.out, decide_eq_false_iff_not]
        intro hm
        obtain ⟨j, hj, e⟩ := List.getElem_of_mem hm
        exact hA.out j (by have := HN.out; omega) hj e
      go_wp2
      go_ret
      exact ⟨rfl, rfl⟩
end Go.Proofs.Ytckndnaohggmhaa
