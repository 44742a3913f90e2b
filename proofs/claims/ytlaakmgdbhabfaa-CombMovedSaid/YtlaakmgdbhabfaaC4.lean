/- Texts of one package, joined: Within, Marks. -/
import Derived.Test.YtlaakmgdbhabfaaC3
import Derived.BigQuiet
import Derived.Deep.QuietTactic
/- within: whether all numbers of a list are from low to high. -/
namespace Go.Proofs.Ytlaakmgdbhabfaa
open Go.RowKit Go.Shelf

def inside (lo hi x : Int) : Bool := decide (lo ≤ x) && decide (x ≤ hi)

set_option maxHeartbeats 400000 in
theorem between (lo hi : Int) (B C : Nat) (xs : List Int) (w : World) (hB : B < w.heap.size) (hC : C < w.heap.size)
    (hb : w.cell? ⟨B, 0, none⟩ = some (.int .i64 lo)) (hc : w.cell? ⟨C, 0, none⟩ = some (.int .i64 hi)) :
    PredOn 93 #[.pointer (some ⟨B, 0, none⟩), .pointer (some ⟨C, 0, none⟩)] (Value.int .i64) (inside lo hi) xs w := fun W x hx hbw => by
  have hb' : W.cell? ⟨B, 0, none⟩ = some (.int .i64 lo) := (hbw.cell (p := ⟨B, 0, none⟩) hB).trans hb
  have hc' : W.cell? ⟨C, 0, none⟩ = some (.int .i64 hi) := (hbw.cell (p := ⟨C, 0, none⟩) hC).trans hc
  show Calls Try.prog 93 #[.int .i64 x, .pointer (some ⟨B, 0, none⟩), .pointer (some ⟨C, 0, none⟩)] W fun e w' => e = .returned (.bool (inside lo hi x)) ∧ Below W.heap.size W w'
  by_cases h : lo ≤ x
  · by_cases h2 : x ≤ hi
    · have hi2 : inside lo hi x = true := by simp [inside, h, h2]
      rw [hi2]
      go_enter Try.func93, Try.ntmps93
      go_wp2
      go_ret
      exact ⟨rfl, Below.refl _ _⟩
    · have hi2 : inside lo hi x = false := by simp [inside, h2]
      rw [hi2]
      go_enter Try.func93, Try.ntmps93
      go_wp2
      go_ret
      exact ⟨rfl, Below.refl _ _⟩
  · have hi2 : inside lo hi x = false := by simp [inside, h]
    rw [hi2]
    go_enter Try.func93, Try.ntmps93
    go_wp2
    go_ret
    exact ⟨rfl, Below.refl _ _⟩

set_option maxHeartbeats 400000 in
theorem within (lo hi : Int) (A : Option Addr) (n c : Nat) (xs : List Int) (w : World) (hnn : n = xs.length)
    (hn : n ≤ 9223372036854775807) (hh : Held w w.heap.size 1 encI A xs) :
    Calls Try.prog 63 #[.int .i64 lo, .int .i64 hi, .slice A n c] w fun e w' => e = .returned (.bool (xs.all (inside lo hi))) ∧ Below w.heap.size w w' := by
  have e2 : ∀ args w, (callFunc 93 args).run Try.prog w = .ok (.enter 93 args) w := enters_of Try.func93 (by kernel_rfl) rfl
  have hb0 : Below w.heap.size w ((w.alloc (.cells #[.int .i64 lo] 2)).alloc (.cells #[.int .i64 hi] 2)) := ((Below.refl _ w).alloc (Nat.le_refl _) _).alloc (by simp) _
  have hcon := every64 93 #[.pointer (some ⟨w.heap.size, 0, none⟩), .pointer (some ⟨w.heap.size + 1, 0, none⟩)] e2 (inside lo hi) A n c xs ((w.alloc (.cells #[.int .i64 lo] 2)).alloc (.cells #[.int .i64 hi] 2)) hnn hn
    ((hh.kept hb0 (Nat.le_refl _)).wider (by simp; omega)) (between lo hi w.heap.size (w.heap.size + 1) xs _ (by simp; omega) (by simp) (by simp) (by simp))
  generalize xs.all (inside lo hi) = q at hcon ⊢
  clear hnn hh
  go_enter Try.func63, Try.ntmps63
  go_wp2_with (go_at_call 92; refine hcon.mono ?_; rintro e w' ⟨rfl, hb'⟩)
  go_ret
  exact ⟨rfl, bstep hb0 (by simp; omega) hb'⟩

end Go.Proofs.Ytlaakmgdbhabfaa

/- Sheets that are read; CheckSheet's closure, and areMarks. -/
namespace Go.Proofs.Ytlaakmgdbhabfaa
open Go.RowKit Go.Shelf

/-- The sheet that a value holds: its combs and marks, in blocks below B. -/
structure IsSheet (w : World) (B : Nat) (A : Option Addr) (n c : Nat) (A' : Option Addr) (n' c' : Nat) (cs ms : List (Int × Int)) : Prop where
  ncs : n = cs.length
  nms : n' = ms.length
  nle : n ≤ 9223372036854775807
  nle' : n' ≤ 9223372036854775807
  cap : n ≤ c
  cap' : n' ≤ c'
  hcs : Held w B 2 encS A cs
  hms : Held w B 2 encS A' ms
section
variable {w w' : World} {B C : Nat} {A : Option Addr} {n c : Nat} {A' : Option Addr} {n' c' : Nat} {cs ms : List (Int × Int)}
theorem IsSheet.kept (h : IsSheet w B A n c A' n' c' cs ms) (hb : Below C w w') (hB : B ≤ C) : IsSheet w' B A n c A' n' c' cs ms := ⟨h.ncs, h.nms, h.nle, h.nle', h.cap, h.cap', h.hcs.kept hb hB, h.hms.kept hb hB⟩
theorem IsSheet.wider (h : IsSheet w B A n c A' n' c' cs ms) (hB : B ≤ C) : IsSheet w C A n c A' n' c' cs ms := ⟨h.ncs, h.nms, h.nle, h.nle', h.cap, h.cap', h.hcs.wider hB, h.hms.wider hB⟩
theorem IsSheet.ext (h : IsSheet w w.heap.size A n c A' n' c' cs ms) (e : Below w.heap.size w w') : IsSheet w' w'.heap.size A n c A' n' c' cs ms := (h.kept e (Nat.le_refl _)).wider e.size
end

/-- A comb that is not as described. -/
def combBad (c : Int × Int) : Bool := !([c.1].all (inside 1 50)) || !([c.2].all (inside 2 20))
/-- Whether ranges are marks, from a number on. -/
def marksOk : Int → List (Int × Int) → Bool
  | _, [] => true
  | f, m :: ms => [m.1, m.2].all (inside f 500) && ([m.2 - m.1].all (inside 0 3) && marksOk (m.2 + 1) ms)
/-- What CheckSheet answers. -/
def sheetErr (cs ms : List (Int × Int)) : Int :=
  if (1 ≤ cs.length ∧ cs.length ≤ 8) ∧ 1 ≤ ms.length ∧ ms.length ≤ 12 then
    if cs.all (fun c => !combBad c) then if marksOk 0 ms then 0 else 3
    else 2
  else 6

theorem held1 {w : World} {g : Nat} {x : Int} (hg : g < w.heap.size) (h : w.cell? ⟨g, 0, none⟩ = some (.int .i64 x)) : Held w w.heap.size 1 encI (some ⟨g, 0, none⟩) [x] :=
  .inr ⟨g, 0, rfl, hg, fun j z hz i v hv => by
    match j, hz with
    | 0, hz =>
      simp at hz; subst hz
      match i, hv with
      | 0, hv => simp [encI] at hv; subst hv; exact h⟩
theorem held2 {w : World} {g : Nat} {x y : Int} (hg : g < w.heap.size) (h : w.cell? ⟨g, 0, none⟩ = some (.int .i64 x)) (h' : w.cell? ⟨g, 1, none⟩ = some (.int .i64 y)) : Held w w.heap.size 1 encI (some ⟨g, 0, none⟩) [x, y] :=
  .inr ⟨g, 0, rfl, hg, fun j z hz i v hv => by
    match j, hz with
    | 0, hz =>
      simp at hz; subst hz
      match i, hv with
      | 0, hv => simp [encI] at hv; subst hv; exact h
    | 1, hz =>
      simp at hz; subst hz
      match i, hv with
      | 0, hv => simp [encI] at hv; subst hv; exact h'⟩
theorem held_pair {w : World} {B : Nat} {A : Option Addr} {xs : List (Int × Int)} (h : Held w B 2 encS A xs) {k : Nat} (hk : k < xs.length) : ∃ b off, A = some ⟨b, off, none⟩ ∧ b < B ∧ w.cell? ⟨b, off + k * 2, none⟩ = some (.int .i64 (xs.getD k (0, 0)).1) ∧ w.cell? ⟨b, off + k * 2 + 1, none⟩ = some (.int .i64 (xs.getD k (0, 0)).2) := by
  rcases h with e | ⟨b, off, rfl, hb, hc⟩
  · rw [e] at hk; simp at hk
  · have e := List.getElem?_eq_getElem hk
    have e2 : xs.getD k (0, 0) = xs[k] := by simp [e]
    rw [e2]
    exact ⟨b, off, rfl, hb, hc k _ e 0 _ rfl, hc k _ e 1 _ rfl⟩

set_option maxHeartbeats 400000 in
theorem wrongComb (xs : List (Int × Int)) (w : World) : PredOn 62 #[] (fun x => .agg (encS x).toArray) combBad xs w := fun W x hx hbw => by
  show Calls Try.prog 62 #[.agg #[.int .i64 x.1, .int .i64 x.2]] W fun e w' => e = .returned (.bool (combBad x)) ∧ Below W.heap.size W w'
  unfold combBad
  generalize hq1 : [x.1].all (inside 1 50) = q1
  generalize hq2 : [x.2].all (inside 2 20) = q2
  have H1 := Lib.hid hq1; clear hq1
  have H2 := Lib.hid hq2; clear hq2
  clear hx hbw
  go_enter Try.func62, Try.ntmps62
  go_wp2_with fail
  refine (within _ _ _ _ _ [x.1] _ rfl (by simp) (held1 (by simp) (by simp))).mono ?_
  rw [H1.out]
  rintro e w1 ⟨rfl, hb1⟩
  have hx1 : w1.cell? ⟨W.heap.size, 1, none⟩ = some (.int .i64 x.2) := (hb1.cell (p := ⟨W.heap.size, 1, none⟩) (by simp <;> omega)).trans (by simp)
  have hz1 : W.heap.size + 2 ≤ w1.heap.size := by have := hb1.size; simpa using this
  have hB1 : Below W.heap.size W w1 := bstep (((Below.refl _ W).alloc (Nat.le_refl _) _).alloc (by simp) _) (by simp; omega) hb1
  clear hb1
  cases q1 with
  | false =>
    go_wp2
    go_ret
    exact ⟨rfl, hB1⟩
  | true =>
    go_wp2_with fail
    refine (within _ _ _ _ _ [x.2] _ rfl (by simp) (held1 (by simp) (by simp))).mono ?_
    rw [H2.out]
    rintro e w2 ⟨rfl, hb2⟩
    go_wp2
    go_ret
    exact ⟨rfl, bstep (hB1.alloc hB1.size _) (by have := hB1.size; simp; omega) hb2⟩

set_option maxRecDepth 100000 in
set_option maxHeartbeats 1000000 in
theorem areMarks_any (A : Option Addr) (n c : Nat) (ms : List (Int × Int)) (w : World) (hnn : n = ms.length) (hn : n ≤ 1000) (hh : Held w w.heap.size 2 encS A ms) :
    Calls Try.prog 65 #[.slice A n c] w fun e w' => e = .returned (.bool (marksOk 0 ms)) ∧ Below w.heap.size w w' := by
  have HN := Lib.hid hnn; clear hnn
  go_enter Try.func65, Try.ntmps65
  go_wp2
  go_loopw [3, 5, 8] (fun f _ i wr => ∃ (k : Nat) (fr : Int), k ≤ n ∧ i = .int .i64 k ∧ f = .int .i64 fr ∧ 0 ≤ fr ∧ fr ≤ 501 ∧ Hid (Below w.heap.size w wr) ∧ Hid (marksOk 0 ms = marksOk fr (ms.drop k))) (fun _ _ i _ => n - (intOf i).toNat)
  case atStart => exact ⟨0, 0, Nat.zero_le _, rfl, rfl, by omega, by omega, Lib.hid (Below.refl _ _), Lib.hid rfl⟩
  case round =>
    obtain ⟨k, fr, hk, rfl, rfl, hf0, hf1, hB, hA⟩ := hrel
    by_cases hlt : k < n
    · have hltz : (k : Int) < (n : Int) := by omega
      have hkl : k < ms.length := by rw [← HN.out]; exact hlt
      obtain ⟨b, off, rfl, hbl, d0, d1⟩ := held_pair hh hkl
      obtain ⟨lo, hi, hs⟩ : ∃ lo hi, ms.getD k (0, 0) = (lo, hi) := ⟨_, _, rfl⟩
      rw [hs] at d0 d1
      have d0 := (hB.out.cell (p := ⟨b, off + k * 2, none⟩) hbl).trans d0
      have d1 := (hB.out.cell (p := ⟨b, off + k * 2 + 1, none⟩) hbl).trans d1
      simp only at d0 d1
      have hdr : ms.drop k = (lo, hi) :: ms.drop (k + 1) := by
        rw [List.drop_eq_getElem_cons hkl]
        congr 1
        rw [← hs]; simp [hkl]
      have hm : marksOk fr (ms.drop k) = ([lo, hi].all (inside fr 500) && ([hi - lo].all (inside 0 3) && marksOk (hi + 1) (ms.drop (k + 1)))) := by rw [hdr]; rfl
      generalize hq1 : [lo, hi].all (inside fr 500) = q1 at hm
      generalize hq2 : [hi - lo].all (inside 0 3) = q2 at hm
      have H1 := Lib.hid hq1
      have H2 := Lib.hid hq2
      have HM := Lib.hid hm
      have hq : q1 = true → (fr ≤ lo ∧ lo ≤ 500) ∧ fr ≤ hi ∧ hi ≤ 500 := fun e => by rw [e] at hq1; simpa [inside] using hq1
      clear hq1 hq2 hm hdr hs
      go_wp2_with fail
      refine (within _ _ _ _ _ [lo, hi] _ rfl (by simp) (held2 (by simp) (by simp) (by simp))).mono ?_
      rw [H1.out]
      rintro e w1 ⟨rfl, hb1⟩
      have hx0 : w1.cell? ⟨wr.heap.size, 0, none⟩ = some (.int .i64 lo) := (hb1.cell (p := ⟨wr.heap.size, 0, none⟩) (by simp <;> omega)).trans (by simp)
      have hx1 : w1.cell? ⟨wr.heap.size, 1, none⟩ = some (.int .i64 hi) := (hb1.cell (p := ⟨wr.heap.size, 1, none⟩) (by simp <;> omega)).trans (by simp)
      have hz1 : wr.heap.size + 2 ≤ w1.heap.size := by have := hb1.size; simpa using this
      have hB1 : Below w.heap.size w w1 := bstep ((hB.out.alloc hB.out.size _).alloc (by have := hB.out.size; simp; omega) _) (by have := hB.out.size; simp; omega) hb1
      clear hb1 d0 d1
      cases q1 with
      | false =>
        go_wp2
        go_ret
        exact ⟨ret_bool (by rw [hA.out, HM.out]; rfl), hB1⟩
      | true =>
        obtain ⟨⟨a1, a2⟩, a3, a4⟩ := hq rfl
        go_wp2_with fail
        refine (within _ _ _ _ _ [hi - lo] _ rfl (by simp) (held1 (by simp) (by simp))).mono ?_
        rw [H2.out]
        rintro e w2 ⟨rfl, hb2⟩
        have hb12 : Below w1.heap.size w1 w2 := bstep ((Below.refl _ w1).alloc (Nat.le_refl _) _) (by simp) hb2
        have hy0 : w2.cell? ⟨wr.heap.size, 0, none⟩ = some (.int .i64 lo) := (hb12.cell (p := ⟨wr.heap.size, 0, none⟩) (by simp <;> omega)).trans hx0
        have hy1 : w2.cell? ⟨wr.heap.size, 1, none⟩ = some (.int .i64 hi) := (hb12.cell (p := ⟨wr.heap.size, 1, none⟩) (by simp <;> omega)).trans hx1
        have hB2 : Below w.heap.size w w2 := bstep (hB1.alloc hB1.size _) (by have := hB1.size; simp; omega) hb2
        clear hb2 hb12 hx0 hx1
        cases q2 with
        | false =>
          go_wp2
          go_ret
          exact ⟨ret_bool (by rw [hA.out, HM.out]; rfl), hB2⟩
        | true =>
          go_wp2
          go_roundw
          case measure => simp [intOf]; omega
          case rel => exact ⟨k + 1, hi + 1, by omega, by go_num, by go_num, by omega, by omega, Lib.hid hB2, Lib.hid (by rw [hA.out, HM.out]; rfl)⟩
    · have hltz : ¬ (k : Int) < (n : Int) := by omega
      obtain rfl : n = k := by omega
      have he : marksOk 0 ms = true := by rw [hA.out, List.drop_of_length_le (by rw [HN.out]; exact Nat.le_refl _)]; rfl
      have HE := Lib.hid he
      clear he
      go_wp2
      go_ret
      exact ⟨ret_bool (by rw [HE.out]), hB.out⟩
end Go.Proofs.Ytlaakmgdbhabfaa
