/- Texts of the package drop, joined: JoinFun. -/
import Derived.Test.YtckndnaohggmhaaC14
import Derived.Test.YtckndnaohggmhaaC37
/- DropJoined's helpers many and group: how often a place is in lists, and which list is the first one that has it. -/
namespace Go.Proofs.Ytckndnaohggmhaa
open Go.RowKit Go.Shelf

/-- How often a number is in lists. -/
def manyOf (xss : List (List Int)) (p : Int) : Nat := (xss.map fun xs => xs.count p).sum
theorem manyOf_snoc (xss : List (List Int)) (xs : List Int) (p : Int) : manyOf (xss ++ [xs]) p = manyOf xss p + xs.count p := by
  simp [manyOf]
theorem manyOf_take (xss : List (List Int)) (p : Int) {k : Nat} {xs : List Int} (h : xss[k]? = some xs) : manyOf (xss.take (k + 1)) p = manyOf (xss.take k) p + xs.count p := by
  obtain ⟨hk, e⟩ := List.getElem?_eq_some_iff.1 h
  rw [List.take_succ_eq_append_getElem hk, e, manyOf_snoc]
theorem count_take (xs : List Int) (p : Int) {k : Nat} (h : k < xs.length) : (xs.take (k + 1)).count p = (xs.take k).count p + if xs[k] = p then 1 else 0 := by
  rw [List.take_succ_eq_append_getElem h, List.count_append]
  by_cases e : xs[k] = p <;> simp [e]

set_option maxRecDepth 100000 in
set_option maxHeartbeats 2000000 in
theorem many_any (A : Option Addr) (n c : Nat) (xss : List (List Int)) (p : Int) (w : World) (hn : n = xss.length) (hn1 : n ≤ 1000) (hall : ∀ xs, xs ∈ xss → xs.length ≤ 1000) (hh : HeldRows w w.heap.size A xss) :
    Calls Try.prog 53 #[.slice A n c, .int .i64 p] w fun e w' => e = .returned (.int .i64 (manyOf xss p : Nat)) ∧ w' = w := by
  have HNN := Lib.hid hn
  have HALL := Lib.hid hall
  have hget : ∀ (k : Nat) (xs : List Int), xss[k]? = some xs → ∃ b off Aj cj, A = some ⟨b, off, none⟩ ∧ w.cell? ⟨b, off + k, none⟩ = some (.slice Aj xs.length cj) ∧ Held w w.heap.size 1 encI Aj xs ∧ xs.length ≤ 9223372036854775807 := fun k xs hk => heldRows_get hh (Below.refl _ w) hk
  have hbd : ∀ k, manyOf (xss.take k) p ≤ k * 1000 := fun k => by
    induction k with
    | zero => simp [manyOf]
    | succ k ih =>
      by_cases hk : k < xss.length
      · have e := List.getElem?_eq_getElem hk
        rw [manyOf_take xss p e]
        have h1 := hall _ (List.mem_of_getElem? e)
        have h2 := List.count_le_length (a := p) (l := xss[k])
        omega
      · rw [List.take_of_length_le (by omega)]
        rw [List.take_of_length_le (by omega)] at ih
        omega
  have HGET := Lib.hid hget
  have HBD := Lib.hid hbd
  clear hn hall hh hget hbd
  go_enter Try.func53, Try.ntmps53
  go_wp2
  go_loop [5, 6] (fun m i => ∃ k : Nat, k ≤ n ∧ i = .int .i64 k ∧ m = .int .i64 (manyOf (xss.take k) p : Nat)) (fun _ i => n - (intOf i).toNat)
  case atStart => exact ⟨0, Nat.zero_le _, rfl, by simp [manyOf]⟩
  case round =>
    obtain ⟨k, hk, rfl, rfl⟩ := hrel
    by_cases hlt : k < n
    · have hltz : (k : Int) < (n : Int) := by omega
      have hkx : k < xss.length := by rw [← HNN.out]; exact hlt
      obtain ⟨xs, hxs⟩ : ∃ xs, xss[k]? = some xs := ⟨_, List.getElem?_eq_getElem hkx⟩
      obtain ⟨b, off, Aj, cj, rfl, hc, hH, hl⟩ := HGET.out k xs hxs
      have hmt := manyOf_take xss p hxs
      have hx1000 := HALL.out xs (List.mem_of_getElem? hxs)
      have hb1 := HBD.out k
      obtain ⟨mm, hmm⟩ : ∃ mm, manyOf (xss.take k) p = mm := ⟨_, rfl⟩
      rw [hmm] at hmt hb1 ⊢
      obtain ⟨ln, hln⟩ : ∃ ln, xs.length = ln := ⟨_, rfl⟩
      rw [hln] at hc hl hx1000
      have HL := Lib.hid hln
      have HMT := Lib.hid hmt
      have HH := Lib.hid hH
      clear hxs hmt hmm hln hH
      have hmb : (mm : Int) ≤ 1000000 := by omega
      go_wp2
      go_loop [5, 7] (fun m i => ∃ j : Nat, j ≤ ln ∧ i = .int .i64 j ∧ m = .int .i64 ((mm + (xs.take j).count p : Nat) : Int)) (fun _ i => ln - (intOf i).toNat)
      case atStart => exact ⟨0, Nat.zero_le _, rfl, by simp⟩
      case round =>
        obtain ⟨j, hj, rfl, rfl⟩ := hrel
        have hcb : (xs.take j).count p ≤ j := Nat.le_trans List.count_le_length (List.length_take_le _ _)
        by_cases hlt2 : j < ln
        · have hltz2 : (j : Int) < (ln : Int) := by omega
          have hjx : j < xs.length := by rw [HL.out]; exact hlt2
          have hct := count_take xs p hjx
          obtain ⟨y, hy⟩ : ∃ y, xs[j] = y := ⟨_, rfl⟩
          rw [hy] at hct
          obtain ⟨b2, off2, rfl, hc2⟩ : ∃ b2 off2, Aj = some ⟨b2, off2, none⟩ ∧ w.cell? ⟨b2, off2 + j, none⟩ = some (.int .i64 y) := by
            rcases HH.out with e | ⟨b2, off2, rfl, _, hc2⟩
            · rw [e] at hjx; simp at hjx
            · have := hc2 j y (by rw [List.getElem?_eq_getElem hjx, hy]) 0 _ rfl
              exact ⟨b2, off2, rfl, by simpa using this⟩
          obtain ⟨cn, hcn⟩ : ∃ cn, (xs.take j).count p = cn := ⟨_, rfl⟩
          rw [hcn] at hct hcb ⊢
          have HCT := Lib.hid hct
          clear hct hy hcn hjx
          have hs0 : (0 : Int) ≤ ((mm + cn : Nat) : Int) := by omega
          have hs1 : ((mm + cn : Nat) : Int) ≤ 1001000 := by omega
          by_cases hyp : y = p
          · subst hyp
            go_wp2
            go_round
            case measure => simp [intOf]; omega
            case rel => exact ⟨j + 1, by omega, by go_num, by rw [HCT.out, if_pos rfl]; go_num⟩
          · have hype : (y == p) = false := by simp [hyp]
            go_wp2
            go_round
            case measure => simp [intOf]; omega
            case rel => exact ⟨j + 1, by omega, by go_num, by rw [HCT.out, if_neg hyp]; go_num⟩
        · have hltz2 : ¬ (j : Int) < (ln : Int) := by omega
          obtain rfl : j = ln := by omega
          have hct : (xs.take j).count p = xs.count p := by rw [List.take_of_length_le (by rw [HL.out]; exact Nat.le_refl _)]
          rw [hct]
          have HMT2 : Hid (manyOf (xss.take (k + 1)) p = mm + xs.count p) := HMT
          obtain ⟨tt, htt⟩ : ∃ tt, mm + xs.count p = tt := ⟨_, rfl⟩
          rw [htt] at HMT2 ⊢
          clear hct htt
          go_wp2
          go_round
          case measure => simp [intOf]; omega
          case rel => exact ⟨k + 1, by omega, by go_num, by rw [HMT2.out]⟩
    · have hltz : ¬ (k : Int) < (n : Int) := by omega
      obtain rfl : k = n := by omega
      have e : xss.take k = xss := List.take_of_length_le (by rw [HNN.out]; exact Nat.le_refl _)
      rw [e]
      clear e
      go_wp2
      go_ret
      exact ⟨rfl, rfl⟩

/-- The index of the first list that has a number, -1 if none has. -/
def groupIx (xss : List (List Int)) (p : Int) : Int := if xss.findIdx (fun xs => decide (p ∈ xs)) < xss.length then (xss.findIdx (fun xs => decide (p ∈ xs)) : Nat) else -1
theorem groupIx_hit {xss : List (List Int)} {p : Int} {k : Nat} {xs : List Int} (h : xss[k]? = some xs) (hp : p ∈ xs) (hn : ∀ j ys, j < k → xss[j]? = some ys → p ∉ ys) : groupIx xss p = (k : Int) := by
  obtain ⟨hk, e⟩ := List.getElem?_eq_some_iff.1 h
  have : xss.findIdx (fun xs => decide (p ∈ xs)) = k := (List.findIdx_eq hk).2 ⟨by rw [e]; exact decide_eq_true hp, fun j hj => decide_eq_false (hn j _ hj (List.getElem?_eq_getElem (by omega)))⟩
  unfold groupIx
  rw [this, if_pos hk]
theorem groupIx_miss {xss : List (List Int)} {p : Int} (hn : ∀ xs, xs ∈ xss → p ∉ xs) : groupIx xss p = -1 := by
  have : xss.findIdx (fun xs => decide (p ∈ xs)) = xss.length := List.findIdx_eq_length.2 fun xs hx => decide_eq_false (hn xs hx)
  unfold groupIx
  rw [this, if_neg (by omega)]

set_option maxRecDepth 100000 in
set_option maxHeartbeats 2000000 in
theorem group_any (A : Option Addr) (n c : Nat) (xss : List (List Int)) (p : Int) (w : World) (hn : n = xss.length) (hn1 : n ≤ 1000) (hh : HeldRows w w.heap.size A xss) :
    Calls Try.prog 54 #[.slice A n c, .int .i64 p] w fun e w' => e = .returned (.int .i64 (groupIx xss p)) ∧ w' = w := by
  have HNN := Lib.hid hn
  have hget : ∀ (k : Nat) (xs : List Int), xss[k]? = some xs → ∃ b off Aj cj, A = some ⟨b, off, none⟩ ∧ w.cell? ⟨b, off + k, none⟩ = some (.slice Aj xs.length cj) ∧ Held w w.heap.size 1 encI Aj xs ∧ xs.length ≤ 9223372036854775807 := fun k xs hk => heldRows_get hh (Below.refl _ w) hk
  have HGET := Lib.hid hget
  clear hn hh hget
  go_enter Try.func54, Try.ntmps54
  go_wp2
  go_loop [5] (fun i => ∃ k : Nat, k ≤ n ∧ i = .int .i64 k ∧ Hid (∀ j ys, j < k → xss[j]? = some ys → p ∉ ys)) (fun i => n - (intOf i).toNat)
  case atStart => exact ⟨0, Nat.zero_le _, rfl, Lib.hid (fun j ys hj => absurd hj (by omega))⟩
  case round =>
    obtain ⟨k, hk, rfl, hN⟩ := hrel
    by_cases hlt : k < n
    · have hltz : (k : Int) < (n : Int) := by omega
      have hkx : k < xss.length := by rw [← HNN.out]; exact hlt
      obtain ⟨xs, hxs⟩ : ∃ xs, xss[k]? = some xs := ⟨_, List.getElem?_eq_getElem hkx⟩
      obtain ⟨b, off, Aj, cj, rfl, hc, hH, hl⟩ := HGET.out k xs hxs
      have cI := in_ref Aj xs.length cj xs p w rfl hl hH
      obtain ⟨ln, hln⟩ : ∃ ln, xs.length = ln := ⟨_, rfl⟩
      rw [hln] at hc cI
      have HXS := Lib.hid hxs
      clear hxs hln hH hl
      by_cases hp : p ∈ xs
      · rw [decide_eq_true hp] at cI
        have HG : Hid (groupIx xss p = (k : Int)) := Lib.hid (groupIx_hit HXS.out hp hN.out)
        clear hp
        go_wp2_with fail
        refine cI.mono ?_
        rintro e w' ⟨rfl, rfl⟩
        go_wp2
        go_ret
        exact ⟨ret_num HG.out.symm, rfl⟩
      · rw [decide_eq_false hp] at cI
        have HN2 : Hid (∀ j ys, j < k + 1 → xss[j]? = some ys → p ∉ ys) := Lib.hid (fun j ys hj he => by
          by_cases e : j = k
          · subst e; rw [HXS.out] at he; cases he; exact hp
          · exact hN.out j ys (by omega) he)
        clear hp
        go_wp2_with fail
        refine cI.mono ?_
        rintro e w' ⟨rfl, rfl⟩
        go_wp2
        go_round
        case measure => simp [intOf]; omega
        case rel => exact ⟨k + 1, by omega, by go_num, HN2⟩
    · have hltz : ¬ (k : Int) < (n : Int) := by omega
      have HG : Hid (groupIx xss p = -1) := Lib.hid (groupIx_miss fun xs hx hp => by
        obtain ⟨j, hj⟩ := List.getElem?_of_mem hx
        exact hN.out j xs (by have := (List.getElem?_eq_some_iff.1 hj).1; have := HNN.out; omega) hj hp)
      go_wp2
      go_ret
      exact ⟨ret_num HG.out.symm, rfl⟩
end Go.Proofs.Ytckndnaohggmhaa
