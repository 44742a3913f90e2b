/- Texts of the package drop, joined: RefAlone. -/
import Derived.Test.YtckndnaohggmhaaC27
/- The reference's Alone, holds, Part. -/
namespace Go.Proofs.Ytckndnaohggmhaa
open Go.RowKit Go.Shelf

section
variable {w : World} {Wd : Int} {A : Option Addr} {n c : Nat} {A' : Option Addr} {n' c' : Nat} {ss : List (Int × Int)} {ds : List (Int × Int × Int)}

theorem freeB_iff (sz : Nat → Int × Int) (s : Int) : freeB Wd ss sz n s = true ↔ ∀ k, k < n + 2 → apartB Wd ss sz s ((k : Int) - 2) = true := by
  unfold freeB
  rw [List.all_eq_true]
  constructor
  · intro h k hk
    exact h ⟨k, hk⟩ (List.mem_finRange _)
  · intro h k _
    exact h k.val k.isLt

set_option maxRecDepth 100000 in
set_option maxHeartbeats 2000000 in
theorem alone_ref (s : Nat) (h0 : Few Wd ss ds) (hb : IsBath w w.heap.size A n c A' n' c' ss ds) (hs : s < n) :
    Calls Try.prog 48 #[.agg #[.int .i64 Wd, .slice A n c, .slice A' n' c'], .int .i64 (s : Int)] w fun e w' => e = .returned (.bool (freeB Wd ss (sizes ds) n s)) ∧ Ext w w' := by
  have h00 := BathAt.new (Wd := Wd) hb
  have hn10 : n ≤ 10 := by have := h0.many.1; have := hb.nss; omega
  have cK : ∀ (x : Int), -2 ≤ x → x < n → (s : Int) ≠ x → ∀ W : World, IsBath W W.heap.size A n c A' n' c' ss ds → _ := fun x hx1 hx2 hne W h => kind_ref (Wd := Wd) (s : Int) x h0 h (by omega) (by omega) hx1 hx2 hne
  obtain ⟨ans, hans⟩ : ∃ ans, freeB Wd ss (sizes ds) n s = ans := ⟨_, rfl⟩
  rw [hans]
  have HANS := Lib.hid hans
  have CK := Lib.hid cK
  clear hb hans h0 cK
  go_enter Try.func48, Try.ntmps48
  go_wp2
  obtain ⟨w0, hw0⟩ : ∃ w0, w.alloc (.cells #[.int .i64 Wd, .slice A n c, .slice A' n' c'] 25) = w0 := ⟨_, rfl⟩
  have e0 : Ext w w0 := by rw [← hw0]; exact ext_alloc w _
  rw [hw0] at h00 ⊢
  have E0 := Lib.hid e0
  have H0 := Lib.hid h00
  clear hw0 e0 h00
  go_loopw [5] (fun i wr => ∃ j : Nat, j ≤ n + 2 ∧ i = .int .i64 ((j : Int) - 2) ∧ Hid (Ext w0 wr) ∧ Hid (∀ m, m < j → apartB Wd ss (sizes ds) s ((m : Int) - 2) = true)) (fun i _ => (n + 2) - (intOf i + 2).toNat)
  case atStart => exact ⟨0, Nat.zero_le _, rfl, Lib.hid (Ext.refl _), Lib.hid (fun m hm => absurd hm (by omega))⟩
  case round =>
    obtain ⟨j, hj, rfl, hB, hN⟩ := hrel
    have hx := H0.out.ext hB.out
    obtain ⟨q0, q1, q2⟩ := hx.cells
    by_cases hlt : j < n + 2
    · have hltz : (j : Int) - 2 < (n : Int) := by omega
      by_cases hjs : (j : Int) - 2 = (s : Int)
      · have e1 : ((j : Int) - 2 != (s : Int)) = false := by simp [hjs]
        have hN1 : Hid (∀ m, m < j + 1 → apartB Wd ss (sizes ds) s ((m : Int) - 2) = true) := Lib.hid fun m hm => by
          by_cases e : m = j
          · subst e
            simp [apartB, hjs]
          · exact hN.out m (by omega)
        clear hN hx hjs
        go_wp2
        go_roundw
        case measure => simp [intOf]; omega
        case rel => exact ⟨j + 1, by omega, by go_num, hB, hN1⟩
      · have e1 : ((j : Int) - 2 != (s : Int)) = true := by simp [hjs]
        have cC := CK.out ((j : Int) - 2) (by omega) hltz (fun e => hjs e.symm) _ hx.bath
        obtain ⟨kd, hkd⟩ : ∃ kd, kindOf Wd ss (sizes ds) s ((j : Int) - 2) = kd := ⟨_, rfl⟩
        rw [hkd] at cC
        by_cases hk0 : kd = 0
        · subst hk0
          have hN1 : Hid (∀ m, m < j + 1 → apartB Wd ss (sizes ds) s ((m : Int) - 2) = true) := Lib.hid fun m hm => by
            by_cases e : m = j
            · subst e
              simp [apartB, hkd]
            · exact hN.out m (by omega)
          clear hN hx hjs hkd
          go_wp2_with (go_at_call 71; refine cC.mono ?_; rintro e w2 ⟨rfl, hb2⟩)
          go_roundw
          case measure => simp [intOf]; omega
          case rel => exact ⟨j + 1, by omega, by go_num, Lib.hid (hB.out.trans hb2), hN1⟩
        · have e2 : (kd != 0) = true := by simp [hk0]
          obtain rfl : ans = false := by
            rw [← HANS.out, Bool.eq_false_iff]
            intro hf
            have := (freeB_iff _ _).1 hf j hlt
            simp only [apartB, Bool.or_eq_true, decide_eq_true_eq] at this
            rcases this with h | h
            · exact hjs h
            · exact hk0 (hkd.symm.trans h)
          clear hN hx hjs hkd
          go_wp2_with (go_at_call 71; refine cC.mono ?_; rintro e w2 ⟨rfl, hb2⟩)
          go_ret
          exact ⟨rfl, E0.out.trans (hB.out.trans hb2)⟩
    · have hltz : ¬ (j : Int) - 2 < (n : Int) := by omega
      obtain rfl : ans = true := by
        rw [← HANS.out]
        exact (freeB_iff _ _).2 fun k hk => hN.out k (by omega)
      clear hx
      go_wp2
      go_ret
      exact ⟨rfl, E0.out.trans hB.out⟩

/-- Whether two places hold together. -/
def holdsB (Wd : Int) (ss : List (Int × Int)) (ds : List (Int × Int × Int)) (one two : Int) (sure : Bool) : Bool := decide (kindOf Wd ss (sizes ds) one two = 2) || (!sure && decide (kindOf Wd ss (sizes ds) one two = 1))

set_option maxHeartbeats 1000000 in
theorem holds_ref (one two : Int) (sure : Bool) (h0 : Few Wd ss ds) (hb : IsBath w w.heap.size A n c A' n' c' ss ds) (h1 : -2 ≤ one) (h1' : one < n) (h2 : -2 ≤ two) (h2' : two < n) (hne : one ≠ two) :
    Calls Try.prog 91 #[.agg #[.int .i64 Wd, .slice A n c, .slice A' n' c'], .int .i64 one, .int .i64 two, .bool sure] w fun e w' => e = .returned (.bool (holdsB Wd ss ds one two sure)) ∧ Ext w w' := by
  have hX0 : BathAt (w.alloc (.cells #[.int .i64 Wd, .slice A n c, .slice A' n' c'] 25)) w.heap.size Wd A n c A' n' c' ss ds := BathAt.new hb
  have hE0 : Ext w (w.alloc (.cells #[.int .i64 Wd, .slice A n c, .slice A' n' c'] 25)) := ext_alloc w _
  have cK : ∀ W : World, IsBath W W.heap.size A n c A' n' c' ss ds → _ := fun W h => kind_ref (Wd := Wd) one two h0 h h1 h1' h2 h2' hne
  unfold holdsB
  generalize kindOf Wd ss (sizes ds) one two = kd at cK ⊢
  clear hb h0 h1 h1' h2 h2' hne
  by_cases hk : kd = 2
  · subst hk
    go_enter Try.func91, Try.ntmps91
    go_wp2_with fail
    refine (cK _ hX0.bath).mono ?_
    rintro e w1 ⟨rfl, hb1⟩
    go_wp2
    go_ret
    exact ⟨ret_bool (by simp), hE0.trans hb1⟩
  · have e1 : (kd == 2) = false := by simp [hk]
    cases sure with
    | true =>
      go_enter Try.func91, Try.ntmps91
      go_wp2_with fail
      refine (cK _ hX0.bath).mono ?_
      rintro e w1 ⟨rfl, hb1⟩
      go_wp2
      go_ret
      exact ⟨ret_bool (by simp [hk]), hE0.trans hb1⟩
    | false =>
      have HK := Lib.hid hk
      clear hk
      go_enter Try.func91, Try.ntmps91
      go_wp2_with fail
      refine (cK _ hX0.bath).mono ?_
      rintro e w1 ⟨rfl, hb1⟩
      have hX1 := hX0.ext hb1
      have hE1 := Lib.hid (hE0.trans hb1)
      clear hX0 hE0 hb1
      obtain ⟨q0, q1, q2⟩ := hX1.cells
      go_wp2_with fail
      refine (cK _ hX1.bath).mono ?_
      rintro e w2 ⟨rfl, hb2⟩
      have HE := Lib.hid (hE1.out.trans hb2)
      clear hX1 hE1 hb2 cK q0 q1 q2
      by_cases hk1 : kd = 1
      · have e2 : (kd == 1) = true := by simp [hk1]
        go_wp2
        go_ret
        exact ⟨ret_bool (by simp [hk1]), HE.out⟩
      · have e2 : (kd == 1) = false := by simp [hk1]
        go_wp2
        go_ret
        exact ⟨ret_bool (by simp [hk1, HK.out]), HE.out⟩

theorem IsBath.part (h : IsBath w w.heap.size A n c A' n' c' ss ds) {k : Nat} (hk : k ≤ n') (_hn : A' ≠ none ∨ k = 0) : IsBath w w.heap.size A n c A' k c' ss (ds.take k) :=
  ⟨h.nss, by rw [List.length_take]; have := h.nds; omega, h.nle, by have := h.nle'; omega, h.cap, by have := h.cap'; omega, h.hss, by
    rcases h.hds with e | ⟨b, off, e, hlt, hc⟩
    · exact .inl (by rw [e]; simp)
    · refine .inr ⟨b, off, e, hlt, fun j x hj i v hi => hc j x ?_ i v hi⟩
      rw [List.getElem?_take] at hj
      split at hj
      · exact hj
      · cases hj⟩
end
end Go.Proofs.Ytckndnaohggmhaa
