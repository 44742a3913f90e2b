/- Texts of the package drop, joined: Within, Bath, Sized, Meet, Kind. -/
import Derived.Test.YtckndnaohggmhaaC3
import Derived.BigQuiet
import Derived.Deep.QuietTactic
/- within: whether all numbers of a list are from low to high. -/
namespace Go.Proofs.Ytckndnaohggmhaa
open Go.RowKit Go.Shelf

def inside (lo hi x : Int) : Bool := decide (lo ≤ x) && decide (x ≤ hi)

set_option maxHeartbeats 400000 in
theorem between (lo hi : Int) (B C : Nat) (xs : List Int) (w : World) (hB : B < w.heap.size) (hC : C < w.heap.size)
    (hb : w.cell? ⟨B, 0, none⟩ = some (.int .i64 lo)) (hc : w.cell? ⟨C, 0, none⟩ = some (.int .i64 hi)) :
    PredOn 107 #[.pointer (some ⟨B, 0, none⟩), .pointer (some ⟨C, 0, none⟩)] (Value.int .i64) (inside lo hi) xs w := fun W x hx hbw => by
  have hb' : W.cell? ⟨B, 0, none⟩ = some (.int .i64 lo) := (hbw.cell (p := ⟨B, 0, none⟩) hB).trans hb
  have hc' : W.cell? ⟨C, 0, none⟩ = some (.int .i64 hi) := (hbw.cell (p := ⟨C, 0, none⟩) hC).trans hc
  show Calls Try.prog 107 #[.int .i64 x, .pointer (some ⟨B, 0, none⟩), .pointer (some ⟨C, 0, none⟩)] W fun e w' => e = .returned (.bool (inside lo hi x)) ∧ Below W.heap.size W w'
  by_cases h : lo ≤ x
  · by_cases h2 : x ≤ hi
    · have hi2 : inside lo hi x = true := by simp [inside, h, h2]
      rw [hi2]
      go_enter Try.func107, Try.ntmps107
      go_wp2
      go_ret
      exact ⟨rfl, Below.refl _ _⟩
    · have hi2 : inside lo hi x = false := by simp [inside, h2]
      rw [hi2]
      go_enter Try.func107, Try.ntmps107
      go_wp2
      go_ret
      exact ⟨rfl, Below.refl _ _⟩
  · have hi2 : inside lo hi x = false := by simp [inside, h]
    rw [hi2]
    go_enter Try.func107, Try.ntmps107
    go_wp2
    go_ret
    exact ⟨rfl, Below.refl _ _⟩

set_option maxHeartbeats 400000 in
theorem within (lo hi : Int) (A : Option Addr) (n c : Nat) (xs : List Int) (w : World) (hnn : n = xs.length)
    (hn : n ≤ 9223372036854775807) (hh : Held w w.heap.size 1 encI A xs) :
    Calls Try.prog 63 #[.int .i64 lo, .int .i64 hi, .slice A n c] w fun e w' => e = .returned (.bool (xs.all (inside lo hi))) ∧ Below w.heap.size w w' := by
  have e2 : ∀ args w, (callFunc 107 args).run Try.prog w = .ok (.enter 107 args) w := enters_of Try.func107 (by kernel_rfl) rfl
  have hb0 : Below w.heap.size w ((w.alloc (.cells #[.int .i64 lo] 2)).alloc (.cells #[.int .i64 hi] 2)) := ((Below.refl _ w).alloc (Nat.le_refl _) _).alloc (by simp) _
  have hcon := every64 107 #[.pointer (some ⟨w.heap.size, 0, none⟩), .pointer (some ⟨w.heap.size + 1, 0, none⟩)] e2 (inside lo hi) A n c xs ((w.alloc (.cells #[.int .i64 lo] 2)).alloc (.cells #[.int .i64 hi] 2)) hnn hn
    ((hh.kept hb0 (Nat.le_refl _)).wider (by simp; omega)) (between lo hi w.heap.size (w.heap.size + 1) xs _ (by simp; omega) (by simp) (by simp) (by simp))
  generalize xs.all (inside lo hi) = q at hcon ⊢
  clear hnn hh
  go_enter Try.func63, Try.ntmps63
  go_wp2_with (go_at_call 106; refine hcon.mono ?_; rintro e w' ⟨rfl, hb'⟩)
  go_ret
  exact ⟨rfl, bstep hb0 (by simp; omega) hb'⟩

end Go.Proofs.Ytckndnaohggmhaa

/- CheckBath's two closures, and CheckBath. -/
namespace Go.Proofs.Ytckndnaohggmhaa
open Go.RowKit Go.Shelf

theorem held1 {w : World} {b : Nat} {x : Int} (h : w.cell? ⟨b, 0, none⟩ = some (.int .i64 x)) (hb : b < w.heap.size) : Held w w.heap.size 1 encI (some ⟨b, 0, none⟩) [x] :=
  .inr ⟨b, 0, rfl, hb, fun j y hy i v hv => by
    match j, hy with
    | 0, hy =>
      simp at hy; subst hy
      match i, hv with
      | 0, hv => simp [encI] at hv; subst hv; exact h⟩

theorem held2 {w : World} {b : Nat} {x y : Int} (h : w.cell? ⟨b, 0, none⟩ = some (.int .i64 x)) (h' : w.cell? ⟨b, 1, none⟩ = some (.int .i64 y)) (hb : b < w.heap.size) : Held w w.heap.size 1 encI (some ⟨b, 0, none⟩) [x, y] :=
  .inr ⟨b, 0, rfl, hb, fun j z hz i v hv => by
    match j, hz with
    | 0, hz =>
      simp at hz; subst hz
      match i, hv with
      | 0, hv => simp [encI] at hv; subst hv; exact h
    | 1, hz =>
      simp at hz; subst hz
      match i, hv with
      | 0, hv => simp [encI] at hv; subst hv; exact h'⟩

def spotOk (Wd : Int) (s : Int × Int) : Bool := [s.1].all (inside 1 (Wd - 1)) && [s.2].all (inside 0 1000)

set_option maxHeartbeats 400000 in
theorem insideSpot (Wd : Int) (B : Nat) (xs : List (Int × Int)) (w : World) (hB : B < w.heap.size) (h2 : 2 ≤ Wd) (h3 : Wd ≤ 1000)
    (hc : w.cell? ⟨B, 0, none⟩ = some (.int .i64 Wd)) :
    PredOn 62 #[.pointer (some ⟨B, 0, none⟩)] (fun x => .agg (encS x).toArray) (spotOk Wd) xs w := fun W x hx hbw => by
  have hc' : W.cell? ⟨B, 0, none⟩ = some (.int .i64 Wd) := (hbw.cell (p := ⟨B, 0, none⟩) hB).trans hc
  have hBW : B < W.heap.size := Nat.lt_of_lt_of_le hB hbw.size
  have hne : B ≠ W.heap.size := by omega
  show Calls Try.prog 62 #[.agg #[.int .i64 x.1, .int .i64 x.2], .pointer (some ⟨B, 0, none⟩)] W fun e w' => e = .returned (.bool (spotOk Wd x)) ∧ Below W.heap.size W w'
  unfold spotOk
  generalize hq1 : [x.1].all (inside 1 (Wd - 1)) = q1
  generalize hq2 : [x.2].all (inside 0 1000) = q2
  have H1 := Lib.hid hq1; clear hq1
  have H2 := Lib.hid hq2; clear hq2
  go_enter Try.func62, Try.ntmps62
  go_wp2_with fail
  refine (within _ _ _ _ _ [x.1] _ rfl (by simp) (held1 (by simp) (by simp))).mono ?_
  rw [H1.out]
  rintro e w1 ⟨rfl, hb1⟩
  have hx1 : w1.cell? ⟨W.heap.size, 1, none⟩ = some (.int .i64 x.2) := (hb1.cell (p := ⟨W.heap.size, 1, none⟩) (by simp <;> omega)).trans (by simp)
  have hz1 : W.heap.size + 2 ≤ w1.heap.size := by have := hb1.size; simpa using this
  have hB1 : Below W.heap.size W w1 := bstep (((Below.refl _ W).alloc (Nat.le_refl _) _).alloc (by simp) _) (by simp; omega) hb1
  clear hb1
  cases q1 with
  | false =>
    go_wp2
    go_ret
    exact ⟨rfl, hB1⟩
  | true =>
    go_wp2_with fail
    refine (within _ _ _ _ _ [x.2] _ rfl (by simp) (held1 (by simp) (by simp))).mono ?_
    rw [H2.out]
    rintro e w2 ⟨rfl, hb2⟩
    go_wp2
    go_ret
    exact ⟨rfl, bstep (hB1.alloc hB1.size _) (by have := hB1.size; simp; omega) hb2⟩

def dropOk (m : Nat) (d : Int × Int × Int) : Bool := decide (0 ≤ d.1) && decide (d.1 < m) && [d.2.1, d.2.2].all (inside 1 10000) && decide (d.2.1 ≤ d.2.2)

set_option maxHeartbeats 400000 in
theorem rightDrop (A : Option Addr) (m c : Nat) (B : Nat) (xs : List (Int × Int × Int)) (w : World) (hB : B < w.heap.size)
    (hc : w.cell? ⟨B, 1, none⟩ = some (.slice A m c)) :
    PredOn 64 #[.pointer (some ⟨B, 0, none⟩)] (fun x => .agg (encD x).toArray) (dropOk m) xs w := fun W x hx hbw => by
  have hc' : W.cell? ⟨B, 1, none⟩ = some (.slice A m c) := (hbw.cell (p := ⟨B, 1, none⟩) hB).trans hc
  have hBW : B < W.heap.size := Nat.lt_of_lt_of_le hB hbw.size
  have hne : B ≠ W.heap.size := by omega
  show Calls Try.prog 64 #[.agg #[.int .i64 x.1, .int .i64 x.2.1, .int .i64 x.2.2], .pointer (some ⟨B, 0, none⟩)] W fun e w' => e = .returned (.bool (dropOk m x)) ∧ Below W.heap.size W w'
  clear hc hx
  by_cases h1 : 0 ≤ x.1
  · by_cases h2 : x.1 < (m : Int)
    · obtain ⟨q1, hq1⟩ : ∃ q, [x.2.1, x.2.2].all (inside 1 10000) = q := ⟨_, rfl⟩
      have H1 := Lib.hid hq1
      obtain ⟨q2, hq2⟩ : ∃ q, dropOk m x = q := ⟨_, rfl⟩
      have H2 : Hid (q2 = (q1 && decide (x.2.1 ≤ x.2.2))) := Lib.hid (by rw [← hq2]; unfold dropOk; rw [hq1]; simp [h1, h2])
      rw [hq2]
      clear hq1 hq2
      go_enter Try.func64, Try.ntmps64
      go_wp2_with fail
      refine (within _ _ _ _ _ [x.2.1, x.2.2] _ rfl (by simp) (held2 (by simp) (by simp) (by simp))).mono ?_
      rw [H1.out]
      rintro e w1 ⟨rfl, hb1⟩
      have hx1 : w1.cell? ⟨W.heap.size, 1, none⟩ = some (.int .i64 x.2.1) := (hb1.cell (p := ⟨W.heap.size, 1, none⟩) (by simp <;> omega)).trans (by simp)
      have hx2 : w1.cell? ⟨W.heap.size, 2, none⟩ = some (.int .i64 x.2.2) := (hb1.cell (p := ⟨W.heap.size, 2, none⟩) (by simp <;> omega)).trans (by simp)
      have hB1 : Below W.heap.size W w1 := bstep (((Below.refl _ W).alloc (Nat.le_refl _) _).alloc (by simp) _) (by simp; omega) hb1
      clear hb1
      cases q1 with
      | false =>
        go_wp2
        go_ret
        exact ⟨ret_bool (by rw [H2.out]; rfl), hB1⟩
      | true =>
        by_cases h3 : x.2.1 ≤ x.2.2
        · go_wp2
          go_ret
          exact ⟨ret_bool (by rw [H2.out]; simp [h3]), hB1⟩
        · go_wp2
          go_ret
          exact ⟨ret_bool (by rw [H2.out]; simp), hB1⟩
    · have hf : dropOk m x = false := by simp [dropOk, h2]
      rw [hf]
      go_enter Try.func64, Try.ntmps64
      go_wp2
      go_ret
      exact ⟨rfl, (Below.refl _ W).alloc (Nat.le_refl _) _⟩
  · have hf : dropOk m x = false := by simp [dropOk, h1]
    rw [hf]
    go_enter Try.func64, Try.ntmps64
    go_wp2
    go_ret
    exact ⟨rfl, (Below.refl _ W).alloc (Nat.le_refl _) _⟩

/-- The bath that a value holds: its spots and drops, in blocks below B. -/
structure IsBath (w : World) (B : Nat) (A : Option Addr) (n c : Nat) (A' : Option Addr) (n' c' : Nat) (ss : List (Int × Int)) (ds : List (Int × Int × Int)) : Prop where
  nss : n = ss.length
  nds : n' = ds.length
  nle : n ≤ 9223372036854775807
  nle' : n' ≤ 9223372036854775807
  cap : n ≤ c
  cap' : n' ≤ c'
  hss : Held w B 2 encS A ss
  hds : Held w B 3 encD A' ds

theorem IsBath.kept {w w' : World} {B C : Nat} {A : Option Addr} {n c : Nat} {A' : Option Addr} {n' c' : Nat} {ss : List (Int × Int)} {ds : List (Int × Int × Int)}
    (h : IsBath w B A n c A' n' c' ss ds) (hb : Below C w w') (hB : B ≤ C) : IsBath w' B A n c A' n' c' ss ds := ⟨h.nss, h.nds, h.nle, h.nle', h.cap, h.cap', h.hss.kept hb hB, h.hds.kept hb hB⟩
theorem IsBath.wider {w : World} {B C : Nat} {A : Option Addr} {n c : Nat} {A' : Option Addr} {n' c' : Nat} {ss : List (Int × Int)} {ds : List (Int × Int × Int)}
    (h : IsBath w B A n c A' n' c' ss ds) (hB : B ≤ C) : IsBath w C A n c A' n' c' ss ds := ⟨h.nss, h.nds, h.nle, h.nle', h.cap, h.cap', h.hss.wider hB, h.hds.wider hB⟩

/-- What CheckBath answers. -/
def bathErr (Wd : Int) (ss : List (Int × Int)) (ds : List (Int × Int × Int)) : Int :=
  if [Wd].all (inside 2 1000) then
    if ss.length ≤ 10 ∧ ds.length ≤ 40 then
      if ss.all (spotOk Wd) then
        if ss.Nodup then
          if ds.all (dropOk ss.length) then 0 else 16
        else 15
      else 3
    else 6
  else 2

set_option maxHeartbeats 1000000 in
theorem checkBath (Wd : Int) (A : Option Addr) (n c : Nat) (A' : Option Addr) (n' c' : Nat) (ss : List (Int × Int)) (ds : List (Int × Int × Int)) (w : World)
    (hb : IsBath w w.heap.size A n c A' n' c' ss ds) :
    Calls Try.prog 19 #[.agg #[.int .i64 Wd, .slice A n c, .slice A' n' c']] w fun e w' => e = .returned (.int .i64 (bathErr Wd ss ds)) ∧ Below w.heap.size w w' := by
  obtain ⟨r, hr⟩ : ∃ r, bathErr Wd ss ds = r := ⟨_, rfl⟩
  rw [hr]
  have HR := Lib.hid hr; clear hr
  have e1 : ∀ args w, (callFunc 62 args).run Try.prog w = .ok (.enter 62 args) w := enters_of Try.func62 (by kernel_rfl) rfl
  have e2 : ∀ args w, (callFunc 64 args).run Try.prog w = .ok (.enter 64 args) w := enters_of Try.func64 (by kernel_rfl) rfl
  obtain ⟨q1, hq1⟩ : ∃ q, [Wd].all (inside 2 1000) = q := ⟨_, rfl⟩
  have H1 := Lib.hid hq1; clear hq1
  go_enter Try.func19, Try.ntmps19
  go_wp2_with fail
  refine (within _ _ _ _ _ [Wd] _ rfl (by simp) (held1 (by simp) (by simp))).mono ?_
  rw [H1.out]
  rintro e w1 ⟨rfl, hb1⟩
  have hB1 : Below w.heap.size w w1 := bstep (((Below.refl _ w).alloc (Nat.le_refl _) _).alloc (by simp) _) (by simp; omega) hb1
  have hx0 : w1.cell? ⟨w.heap.size, 0, none⟩ = some (.int .i64 Wd) := (hb1.cell (p := ⟨w.heap.size, 0, none⟩) (by simp <;> omega)).trans (by simp)
  have hx1 : w1.cell? ⟨w.heap.size, 1, none⟩ = some (.slice A n c) := (hb1.cell (p := ⟨w.heap.size, 1, none⟩) (by simp <;> omega)).trans (by simp)
  have hx2 : w1.cell? ⟨w.heap.size, 2, none⟩ = some (.slice A' n' c') := (hb1.cell (p := ⟨w.heap.size, 2, none⟩) (by simp <;> omega)).trans (by simp)
  have hz1 : w.heap.size + 2 ≤ w1.heap.size := by have := hb1.size; simpa using this
  clear hb1
  cases q1 with
  | false =>
    go_wp2
    go_ret
    exact ⟨ret_num (by rw [← HR.out]; unfold bathErr; rw [H1.out]; rfl), hB1⟩
  | true =>
    have hw := H1.out
    have hw2 : 2 ≤ Wd ∧ Wd ≤ 1000 := by simpa [inside] using hw
    clear hw
    obtain ⟨hw2, hw3⟩ := hw2
    by_cases hm : n ≤ 10 ∧ n' ≤ 40
    · obtain ⟨hm1, hm2⟩ := hm
      have hm1' : (n : Int) ≤ 10 := by omega
      have hm2' : (n' : Int) ≤ 40 := by omega
      go_wp2_with fail
      refine (everySpot 62 #[.pointer (some ⟨w.heap.size, 0, none⟩)] e1 (spotOk Wd) A n c ss _ hb.nss hb.nle ((hb.hss.kept hB1 (Nat.le_refl _)).wider hB1.size)
        (insideSpot Wd w.heap.size ss _ (by omega) hw2 hw3 hx0)).mono ?_
      obtain ⟨q3, hq3⟩ : ∃ q, ss.all (spotOk Wd) = q := ⟨_, rfl⟩
      rw [hq3]
      have H3 := Lib.hid hq3; clear hq3
      rintro e w2 ⟨rfl, hb2⟩
      have hB2 : Below w.heap.size w w2 := bstep hB1 hB1.size hb2
      have hy1 : w2.cell? ⟨w.heap.size, 1, none⟩ = some (.slice A n c) := (hb2.cell (p := ⟨w.heap.size, 1, none⟩) (by simp <;> omega)).trans hx1
      have hy2 : w2.cell? ⟨w.heap.size, 2, none⟩ = some (.slice A' n' c') := (hb2.cell (p := ⟨w.heap.size, 2, none⟩) (by simp <;> omega)).trans hx2
      have hz2 : w.heap.size + 2 ≤ w2.heap.size := Nat.le_trans hz1 hb2.size
      clear hx1 hx2 hb2 hx0 hz1
      have hmm : ss.length ≤ 10 ∧ ds.length ≤ 40 := by rw [← hb.nss, ← hb.nds]; exact ⟨hm1, hm2⟩
      have HM := Lib.hid hmm; clear hmm
      cases q3 with
      | false =>
        go_wp2
        go_ret
        exact ⟨ret_num (by rw [← HR.out]; unfold bathErr; rw [H1.out, if_pos rfl, if_pos HM.out, H3.out]; rfl), hB2⟩
      | true =>
        go_wp2_with fail
        refine (twiceSpot A n c ss _ hb.nss hb.nle ((hb.hss.kept hB2 (Nat.le_refl _)).wider hB2.size)).mono ?_
        obtain ⟨q4, hq4⟩ : ∃ q, decide ss.Nodup = q := ⟨_, rfl⟩
        rw [hq4]
        have H4 := Lib.hid hq4; clear hq4
        rintro e w3 ⟨rfl, hb3⟩
        have hB3 : Below w.heap.size w w3 := bstep hB2 hB2.size hb3
        have hu1 : w3.cell? ⟨w.heap.size, 1, none⟩ = some (.slice A n c) := (hb3.cell (p := ⟨w.heap.size, 1, none⟩) (by simp <;> omega)).trans hy1
        have hu2 : w3.cell? ⟨w.heap.size, 2, none⟩ = some (.slice A' n' c') := (hb3.cell (p := ⟨w.heap.size, 2, none⟩) (by simp <;> omega)).trans hy2
        have hz3 : w.heap.size + 2 ≤ w3.heap.size := Nat.le_trans hz2 hb3.size
        clear hy1 hy2 hb3 hz2
        cases q4 with
        | false =>
          go_wp2
          go_ret
          exact ⟨ret_num (by rw [← HR.out]; unfold bathErr; rw [H1.out, if_pos rfl, if_pos HM.out, H3.out, if_pos rfl, if_neg (of_decide_eq_false H4.out)]), hB3⟩
        | true =>
          go_wp2_with fail
          refine (everyDrop 64 #[.pointer (some ⟨w.heap.size, 0, none⟩)] e2 (dropOk n) A' n' c' ds _ hb.nds hb.nle' ((hb.hds.kept hB3 (Nat.le_refl _)).wider hB3.size)
            (rightDrop A n c w.heap.size ds _ (by omega) hu1)).mono ?_
          obtain ⟨q5, hq5⟩ : ∃ q, ds.all (dropOk n) = q := ⟨_, rfl⟩
          rw [hq5]
          have H5 := Lib.hid hq5; clear hq5
          rintro e w4 ⟨rfl, hb4⟩
          have hB4 : Below w.heap.size w w4 := bstep hB3 hB3.size hb4
          cases q5 with
          | false =>
            go_wp2
            go_ret
            exact ⟨ret_num (by rw [← HR.out]; unfold bathErr; rw [H1.out, if_pos rfl, if_pos HM.out, H3.out, if_pos rfl, if_pos (of_decide_eq_true H4.out), ← hb.nss, H5.out]; rfl), hB4⟩
          | true =>
            go_wp2
            go_ret
            exact ⟨ret_num (by rw [← HR.out]; unfold bathErr; rw [H1.out, if_pos rfl, if_pos HM.out, H3.out, if_pos rfl, if_pos (of_decide_eq_true H4.out), ← hb.nss, H5.out]; rfl), hB4⟩
    · by_cases hm1 : n ≤ 10
      · have hm1' : (n : Int) ≤ 10 := by omega
        have hm2' : ¬ (n' : Int) ≤ 40 := by omega
        go_wp2
        go_ret
        exact ⟨ret_num (by rw [← HR.out]; unfold bathErr; rw [H1.out, ← hb.nss, ← hb.nds, if_neg hm]; rfl), hB1⟩
      · have hm1' : ¬ (n : Int) ≤ 10 := by omega
        go_wp2
        go_ret
        exact ⟨ret_num (by rw [← HR.out]; unfold bathErr; rw [H1.out, ← hb.nss, ← hb.nds, if_neg hm]; rfl), hB1⟩
end Go.Proofs.Ytckndnaohggmhaa

/- The bath with its sizes behind a pointer: what its small methods answer. -/
namespace Go.Proofs.Ytckndnaohggmhaa
open Go.RowKit Go.Shelf

/-- A bath with its sizes, as cells. -/
def sizedCells (Wd : Int) (A : Option Addr) (n c : Nat) (A' : Option Addr) (n' c' : Nat) (sz : Nat → Int × Int) : Array Value :=
  #[.int .i64 Wd, .slice A n c, .slice A' n' c', .int .i64 (sz 0).1, .int .i64 (sz 0).2, .int .i64 (sz 1).1, .int .i64 (sz 1).2, .int .i64 (sz 2).1, .int .i64 (sz 2).2, .int .i64 (sz 3).1, .int .i64 (sz 3).2,
    .int .i64 (sz 4).1, .int .i64 (sz 4).2, .int .i64 (sz 5).1, .int .i64 (sz 5).2, .int .i64 (sz 6).1, .int .i64 (sz 6).2, .int .i64 (sz 7).1, .int .i64 (sz 7).2, .int .i64 (sz 8).1, .int .i64 (sz 8).2, .int .i64 (sz 9).1, .int .i64 (sz 9).2]

theorem sizedCells_lo (Wd : Int) (A : Option Addr) (n c : Nat) (A' : Option Addr) (n' c' : Nat) (sz : Nat → Int × Int) (i : Nat) (hi : i < 10) : (sizedCells Wd A n c A' n' c' sz)[3 + i * 2]? = some (.int .i64 (sz i).1) := by
  match i, hi with
  | 0, _ => rfl
  | 1, _ => rfl
  | 2, _ => rfl
  | 3, _ => rfl
  | 4, _ => rfl
  | 5, _ => rfl
  | 6, _ => rfl
  | 7, _ => rfl
  | 8, _ => rfl
  | 9, _ => rfl
theorem sizedCells_hi (Wd : Int) (A : Option Addr) (n c : Nat) (A' : Option Addr) (n' c' : Nat) (sz : Nat → Int × Int) (i : Nat) (hi : i < 10) : (sizedCells Wd A n c A' n' c' sz)[3 + i * 2 + 1]? = some (.int .i64 (sz i).2) := by
  match i, hi with
  | 0, _ => rfl
  | 1, _ => rfl
  | 2, _ => rfl
  | 3, _ => rfl
  | 4, _ => rfl
  | 5, _ => rfl
  | 6, _ => rfl
  | 7, _ => rfl
  | 8, _ => rfl
  | 9, _ => rfl

/-- Block g holds a valid bath with the sizes sz, all below B. -/
structure IsSized (w : World) (B g : Nat) (Wd : Int) (A : Option Addr) (n c : Nat) (A' : Option Addr) (n' c' : Nat) (ss : List (Int × Int)) (ds : List (Int × Int × Int)) (sz : Nat → Int × Int) : Prop where
  hg : g < B
  row : w.heap[g]? = some (.cells (sizedCells Wd A n c A' n' c' sz) 84 (0, 0))
  hb : IsBath w B A n c A' n' c' ss ds
  ok : bathErr Wd ss ds = 0
  lo : ∀ i, 0 ≤ (sz i).1 ∧ (sz i).1 ≤ 500000
  hi : ∀ i, 0 ≤ (sz i).2 ∧ (sz i).2 ≤ 500000

section
variable {w w' : World} {B C g : Nat} {Wd : Int} {A : Option Addr} {n c : Nat} {A' : Option Addr} {n' c' : Nat} {ss : List (Int × Int)} {ds : List (Int × Int × Int)} {sz : Nat → Int × Int}
theorem IsSized.kept (h : IsSized w B g Wd A n c A' n' c' ss ds sz) (hb : Below C w w') (hB : B ≤ C) : IsSized w' B g Wd A n c A' n' c' ss ds sz :=
  ⟨h.hg, (hb.block g (by have := h.hg; omega)).trans h.row, h.hb.kept hb hB, h.ok, h.lo, h.hi⟩
theorem IsSized.wider (h : IsSized w B g Wd A n c A' n' c' ss ds sz) (hB : B ≤ C) : IsSized w C g Wd A n c A' n' c' ss ds sz :=
  ⟨Nat.lt_of_lt_of_le h.hg hB, h.row, h.hb.wider hB, h.ok, h.lo, h.hi⟩
theorem IsSized.h0 (h : IsSized w B g Wd A n c A' n' c' ss ds sz) : w.cell? ⟨g, 0, none⟩ = some (.int .i64 Wd) := (cell_of_row w g 0 _ _ _ h.row).trans rfl
theorem IsSized.h1 (h : IsSized w B g Wd A n c A' n' c' ss ds sz) : w.cell? ⟨g, 1, none⟩ = some (.slice A n c) := (cell_of_row w g 1 _ _ _ h.row).trans rfl
theorem IsSized.h2 (h : IsSized w B g Wd A n c A' n' c' ss ds sz) : w.cell? ⟨g, 2, none⟩ = some (.slice A' n' c') := (cell_of_row w g 2 _ _ _ h.row).trans rfl
theorem IsSized.hlo (h : IsSized w B g Wd A n c A' n' c' ss ds sz) (i : Nat) (hi : i < 10) : w.cell? ⟨g, 3 + i * 2, none⟩ = some (.int .i64 (sz i).1) := (cell_of_row w g _ _ _ _ h.row).trans (sizedCells_lo _ _ _ _ _ _ _ _ i hi)
theorem IsSized.hhi (h : IsSized w B g Wd A n c A' n' c' ss ds sz) (i : Nat) (hi : i < 10) : w.cell? ⟨g, 3 + i * 2 + 1, none⟩ = some (.int .i64 (sz i).2) := (cell_of_row w g _ _ _ _ h.row).trans (sizedCells_hi _ _ _ _ _ _ _ _ i hi)

theorem bath_ok {Wd : Int} {ss : List (Int × Int)} {ds : List (Int × Int × Int)} (h : bathErr Wd ss ds = 0) :
    (2 ≤ Wd ∧ Wd ≤ 1000) ∧ (ss.length ≤ 10 ∧ ds.length ≤ 40) ∧ ss.all (spotOk Wd) = true ∧ ss.Nodup ∧ ds.all (dropOk ss.length) = true := by
  unfold bathErr at h
  split at h
  · rename_i h1
    split at h
    · rename_i h2
      split at h
      · rename_i h3
        split at h
        · rename_i h4
          split at h
          · rename_i h5
            exact ⟨by simpa [inside] using h1, h2, h3, h4, h5⟩
          · simp at h
        · simp at h
      · simp at h
    · simp at h
  · simp at h

/-- A bath that is valid but for one drop more than there may be. -/
structure Few (Wd : Int) (ss : List (Int × Int)) (ds : List (Int × Int × Int)) : Prop where
  wide : 2 ≤ Wd ∧ Wd ≤ 1000
  many : ss.length ≤ 10 ∧ ds.length ≤ 41
  spots : ss.all (spotOk Wd) = true
  drops : ds.all (dropOk ss.length) = true
theorem bath_few {Wd : Int} {ss : List (Int × Int)} {ds : List (Int × Int × Int)} (h : bathErr Wd ss ds = 0) : Few Wd ss ds := by
  obtain ⟨h1, h2, h3, _, h5⟩ := bath_ok h
  exact ⟨h1, ⟨h2.1, by omega⟩, h3, h5⟩

theorem spot_ok {Wd : Int} {ss : List (Int × Int)} {ds : List (Int × Int × Int)} (h : bathErr Wd ss ds = 0) {i : Nat} {s : Int × Int} (hi : ss[i]? = some s) : 1 ≤ s.1 ∧ s.1 < Wd ∧ 0 ≤ s.2 ∧ s.2 ≤ 1000 := by
  have := List.all_eq_true.1 (bath_ok h).2.2.1 s (List.mem_of_getElem? hi)
  simp [spotOk, inside] at this
  omega

theorem drop_ok {Wd : Int} {ss : List (Int × Int)} {ds : List (Int × Int × Int)} (h : bathErr Wd ss ds = 0) {i : Nat} {s : Int × Int × Int} (hi : ds[i]? = some s) :
    (0 ≤ s.1 ∧ s.1 < ss.length) ∧ 1 ≤ s.2.1 ∧ s.2.1 ≤ s.2.2 ∧ s.2.2 ≤ 10000 := by
  have := List.all_eq_true.1 (bath_ok h).2.2.2.2 s (List.mem_of_getElem? hi)
  simp [dropOk, inside] at this
  omega

set_option maxHeartbeats 400000 in
theorem least_any (i : Nat) (hi : i < 10) (h : IsSized w B g Wd A n c A' n' c' ss ds sz) :
    Calls Try.prog 82 #[.pointer (some ⟨g, 0, none⟩), .int .i64 i] w fun e w' => e = .returned (.int .i64 (sz i).1) ∧ w' = w := by
  have hc := h.hlo i hi
  have hiz : (i : Int) < 10 := by omega
  clear h
  go_enter Try.func82, Try.ntmps82
  go_wp2
  go_ret
  exact ⟨rfl, rfl⟩

set_option maxHeartbeats 400000 in
theorem most_any (i : Nat) (hi : i < 10) (h : IsSized w B g Wd A n c A' n' c' ss ds sz) :
    Calls Try.prog 80 #[.pointer (some ⟨g, 0, none⟩), .int .i64 i] w fun e w' => e = .returned (.int .i64 (sz i).2) ∧ w' = w := by
  have hc := h.hhi i hi
  have hiz : (i : Int) < 10 := by omega
  clear h
  go_enter Try.func80, Try.ntmps80
  go_wp2
  go_ret
  exact ⟨rfl, rfl⟩

set_option maxHeartbeats 400000 in
theorem isThere_any (i : Nat) (hi : i < 10) (h : IsSized w B g Wd A n c A' n' c' ss ds sz) :
    Calls Try.prog 102 #[.pointer (some ⟨g, 0, none⟩), .int .i64 i] w fun e w' => e = .returned (.bool (decide (0 < (sz i).1))) ∧ w' = w := by
  have hc := h.hlo i hi
  have hiz : (i : Int) < 10 := by omega
  clear h
  go_enter Try.func102, Try.ntmps102
  go_wp2
  go_ret
  exact ⟨rfl, rfl⟩

set_option maxHeartbeats 400000 in
theorem isSpot_any (x : Int) (h : IsSized w B g Wd A n c A' n' c' ss ds sz) :
    Calls Try.prog 59 #[.pointer (some ⟨g, 0, none⟩), .int .i64 x] w fun e w' => e = .returned (.bool (decide (0 ≤ x) && decide (x < n))) ∧ w' = w := by
  have hc := h.h1
  clear h
  by_cases h1 : 0 ≤ x
  · by_cases h2 : x < n
    · go_enter Try.func59, Try.ntmps59
      go_wp2
      go_ret
      exact ⟨ret_bool (by simp [h1, h2]), rfl⟩
    · go_enter Try.func59, Try.ntmps59
      go_wp2
      go_ret
      exact ⟨ret_bool (by simp [h2]), rfl⟩
  · go_enter Try.func59, Try.ntmps59
    go_wp2
    go_ret
    exact ⟨ret_bool (by simp; omega), rfl⟩

set_option maxHeartbeats 400000 in
theorem isPlace_any (x : Int) (h : IsSized w B g Wd A n c A' n' c' ss ds sz) :
    Calls Try.prog 93 #[.pointer (some ⟨g, 0, none⟩), .int .i64 x] w fun e w' => e = .returned (.bool (decide (-2 ≤ x) && decide (x < n))) ∧ w' = w := by
  have hc := h.h1
  clear h
  by_cases h1 : -2 ≤ x
  · by_cases h2 : x < n
    · go_enter Try.func93, Try.ntmps93
      go_wp2
      go_ret
      exact ⟨ret_bool (by simp [h1, h2]), rfl⟩
    · go_enter Try.func93, Try.ntmps93
      go_wp2
      go_ret
      exact ⟨ret_bool (by simp [h2]), rfl⟩
  · go_enter Try.func93, Try.ntmps93
    go_wp2
    go_ret
    exact ⟨ret_bool (by simp; omega), rfl⟩

end
end Go.Proofs.Ytckndnaohggmhaa

/- reach, toWall, meet, kind. -/
namespace Go.Proofs.Ytckndnaohggmhaa
open Go.RowKit Go.Shelf

theorem mul_bd {a b M N : Int} (ha : 0 ≤ a) (ha' : a ≤ M) (hb : 0 ≤ b) (hb' : b ≤ N) : 0 ≤ a * b ∧ a * b ≤ M * N :=
  ⟨Int.mul_nonneg ha hb, Int.mul_le_mul ha' hb' hb (by omega)⟩

/-- Whether the roots of two sizes are together at least the root of a third number. -/
def reachB (a c d : Int) : Bool := if a = 0 ∨ c = 0 then false else decide (d - a - c ≤ 0) || decide ((d - a - c) * (d - a - c) ≤ 4 * a * c)

set_option maxHeartbeats 400000 in
theorem reach_any (a c d : Int) (w : World) (ha : 0 ≤ a) (ha' : a ≤ 500000) (hc : 0 ≤ c) (hc' : c ≤ 500000) (hd : 0 ≤ d) (hd' : d ≤ 2000000) :
    Calls Try.prog 116 #[.int .i64 a, .int .i64 c, .int .i64 d] w fun e w' => e = .returned (.bool (reachB a c d)) ∧ w' = w := by
  by_cases h1 : a = 0
  · have hr : reachB a c d = false := by simp [reachB, h1]
    rw [hr]
    go_enter Try.func116, Try.ntmps116
    go_wp2
    go_ret
    exact ⟨rfl, rfl⟩
  · by_cases h2 : c = 0
    · have hr : reachB a c d = false := by simp [reachB, h2]
      rw [hr]
      go_enter Try.func116, Try.ntmps116
      go_wp2
      go_ret
      exact ⟨rfl, rfl⟩
    · have e1 : (a == 0) = false := by simpa using h1
      have e2 : (c == 0) = false := by simpa using h2
      by_cases h3 : d - a - c ≤ 0
      · have hr : reachB a c d = true := by simp [reachB, h1, h2, h3]
        rw [hr]
        go_enter Try.func116, Try.ntmps116
        go_wp2
        go_ret
        exact ⟨rfl, rfl⟩
      · have hr : reachB a c d = decide ((d - a - c) * (d - a - c) ≤ 4 * a * c) := by simp [reachB, h1, h2, h3]
        rw [hr]
        have b1 := mul_bd (a := d - a - c) (b := d - a - c) (M := 2000000) (N := 2000000) (by omega) (by omega) (by omega) (by omega)
        have b2 := mul_bd (a := 4 * a) (b := c) (M := 2000000) (N := 500000) (by omega) (by omega) (by omega) (by omega)
        go_enter Try.func116, Try.ntmps116
        go_wp2
        go_ret
        exact ⟨rfl, rfl⟩

section
variable {w w' : World} {B C g : Nat} {Wd : Int} {A : Option Addr} {n c : Nat} {A' : Option Addr} {n' c' : Nat} {ss : List (Int × Int)} {ds : List (Int × Int × Int)} {sz : Nat → Int × Int}

theorem IsSized.spotAt (h : IsSized w B g Wd A n c A' n' c' ss ds sz) {i : Nat} (hi : i < n) : ∃ b off, A = some ⟨b, off, none⟩ ∧ w.cell? ⟨b, off + i * 2, none⟩ = some (.int .i64 (ss.getD i (0, 0)).1) ∧ w.cell? ⟨b, off + i * 2 + 1, none⟩ = some (.int .i64 (ss.getD i (0, 0)).2) := by
  have hl : i < ss.length := by rw [← h.hb.nss]; exact hi
  rcases h.hb.hss with e | ⟨b, off, rfl, _, hc⟩
  · simp [e] at hl
  · have hx : ss[i]? = some (ss.getD i (0, 0)) := by simp [List.getD, List.getElem?_eq_getElem hl]
    exact ⟨b, off, rfl, hc i _ hx 0 _ rfl, hc i _ hx 1 _ rfl⟩

theorem IsSized.spotBd (h : IsSized w B g Wd A n c A' n' c' ss ds sz) {i : Nat} (hi : i < n) : 1 ≤ (ss.getD i (0, 0)).1 ∧ (ss.getD i (0, 0)).1 < Wd ∧ 0 ≤ (ss.getD i (0, 0)).2 ∧ (ss.getD i (0, 0)).2 ≤ 1000 := by
  have hl : i < ss.length := by rw [← h.hb.nss]; exact hi
  exact spot_ok h.ok (i := i) (by simp [List.getD, List.getElem?_eq_getElem hl])

theorem IsSized.few (h : IsSized w B g Wd A n c A' n' c' ss ds sz) : n ≤ 10 ∧ n' ≤ 40 ∧ 2 ≤ Wd ∧ Wd ≤ 1000 := by
  have := bath_ok h.ok
  rw [h.hb.nss, h.hb.nds]
  omega

set_option maxHeartbeats 400000 in
theorem toWall_left (i : Nat) (hi : i < n) (h : IsSized w B g Wd A n c A' n' c' ss ds sz) :
    Calls Try.prog 115 #[.pointer (some ⟨g, 0, none⟩), .int .i64 (-1), .int .i64 i] w fun e w' => e = .returned (.int .i64 (ss.getD i (0, 0)).1) ∧ Below w.heap.size w w' := by
  obtain ⟨b, off, rfl, hx, hy⟩ := h.spotAt hi
  have h1 := h.h1
  have hiz : (i : Int) < n := by omega
  generalize ss.getD i (0, 0) = s at hx hy ⊢
  clear h
  go_enter Try.func115, Try.ntmps115
  go_wp2
  go_ret
  exact ⟨rfl, Below.refl _ _⟩

set_option maxHeartbeats 400000 in
theorem toWall_right (i : Nat) (hi : i < n) (h : IsSized w B g Wd A n c A' n' c' ss ds sz) :
    Calls Try.prog 115 #[.pointer (some ⟨g, 0, none⟩), .int .i64 (-2), .int .i64 i] w fun e w' => e = .returned (.int .i64 (Wd - (ss.getD i (0, 0)).1)) ∧ Below w.heap.size w w' := by
  obtain ⟨b, off, rfl, hx, hy⟩ := h.spotAt hi
  have h0 := h.h0
  have h1 := h.h1
  have hiz : (i : Int) < n := by omega
  have hbd := h.spotBd hi
  have hf := h.few
  generalize ss.getD i (0, 0) = s at hx hy hbd ⊢
  clear h
  go_enter Try.func115, Try.ntmps115
  go_wp2
  go_quiet (fail)
  go_wp2
  go_ret
  exact ⟨rfl, below_drewN (Below.refl _ _) _⟩

/-- Whether two different places touch, the spots' sizes being sel. -/
def meetB (Wd : Int) (ss : List (Int × Int)) (sel : Nat → Int) (one two : Int) : Bool :=
  if max one two < 0 then false
  else if min one two < 0 then
    decide ((if min one two = -1 then (ss.getD (max one two).toNat (0, 0)).1 else Wd - (ss.getD (max one two).toNat (0, 0)).1) * (if min one two = -1 then (ss.getD (max one two).toNat (0, 0)).1 else Wd - (ss.getD (max one two).toNat (0, 0)).1) ≤ sel (max one two).toNat)
  else reachB (sel (min one two).toNat) (sel (max one two).toNat)
    (((ss.getD (min one two).toNat (0, 0)).1 - (ss.getD (max one two).toNat (0, 0)).1) * ((ss.getD (min one two).toNat (0, 0)).1 - (ss.getD (max one two).toNat (0, 0)).1) +
      ((ss.getD (min one two).toNat (0, 0)).2 - (ss.getD (max one two).toNat (0, 0)).2) * ((ss.getD (min one two).toNat (0, 0)).2 - (ss.getD (max one two).toNat (0, 0)).2))

/-- A function value that answers the spots' sizes. -/
def SizeFn (f : Nat) (sel : Nat → Int) (w : World) (g : Nat) : Prop :=
  ∀ (W : World) (i : Nat), i < 10 → Below w.heap.size w W → Calls Try.prog f #[.pointer (some ⟨g, 0, none⟩), .int .i64 i] W fun e w' => e = .returned (.int .i64 (sel i)) ∧ w' = W

set_option maxHeartbeats 400000 in
theorem meet_lt_walls (f : Nat) (a b : Int) (hab : a < b) (hb : b < 0) : Calls Try.prog 79 #[.pointer (some ⟨g, 0, none⟩), .int .i64 a, .int .i64 b, .func (.func f) #[.pointer (some ⟨g, 0, none⟩)] #[]] w fun e w' => e = .returned (.bool false) ∧ Below w.heap.size w w' := by
  go_enter Try.func79, Try.ntmps79
  go_wp2_with fail
  go_ret
  exact ⟨rfl, Below.refl _ _⟩

set_option maxHeartbeats 400000 in
theorem meet_lt_left (f : Nat) (ef : ∀ args w, (callFunc f args).run Try.prog w = .ok (.enter f args) w) (sel : Nat → Int) (hf : SizeFn f sel w g) (hs : ∀ i, 0 ≤ sel i ∧ sel i ≤ 500000) (b : Nat) (hb : b < n) (h : IsSized w w.heap.size g Wd A n c A' n' c' ss ds sz) : Calls Try.prog 79 #[.pointer (some ⟨g, 0, none⟩), .int .i64 (-1), .int .i64 b, .func (.func f) #[.pointer (some ⟨g, 0, none⟩)] #[]] w fun e w' => e = .returned (.bool (decide ((ss.getD b (0, 0)).1 * (ss.getD b (0, 0)).1 ≤ sel b))) ∧ Below w.heap.size w w' := by
  have hbd := h.spotBd hb
  have hfew := h.few
  have hcon := toWall_left b hb h
  have hsz : ∀ W, Below w.heap.size w W → _ := fun W hW => hf W b (by omega) hW
  have hsb := hs b
  clear hf hs h
  obtain ⟨v, hv⟩ : ∃ v, (ss.getD b (0, 0)).1 = v := ⟨_, rfl⟩
  rw [hv] at hcon ⊢
  have hv1 : 0 ≤ v ∧ v ≤ 1000 := by rw [← hv]; omega
  have b1 := mul_bd (a := v) (b := v) (M := 1000) (N := 1000) hv1.1 hv1.2 hv1.1 hv1.2
  clear hv hbd
  have hlt1 : (-1 : Int) < (b : Int) := by omega
  generalize sel b = t at hsz hsb ⊢
  go_enter Try.func79, Try.ntmps79
  go_wp2_with fail
  refine hcon.mono ?_
  rintro e w1 ⟨rfl, hb1⟩
  have hcall := hsz w1 hb1
  clear hsz hcon
  go_wp2_with fail
  refine hcall.mono ?_
  rintro e w2 ⟨rfl, rfl⟩
  go_wp2
  go_ret
  exact ⟨rfl, hb1⟩

set_option maxHeartbeats 400000 in
theorem meet_lt_right (f : Nat) (ef : ∀ args w, (callFunc f args).run Try.prog w = .ok (.enter f args) w) (sel : Nat → Int) (hf : SizeFn f sel w g) (hs : ∀ i, 0 ≤ sel i ∧ sel i ≤ 500000) (b : Nat) (hb : b < n) (h : IsSized w w.heap.size g Wd A n c A' n' c' ss ds sz) : Calls Try.prog 79 #[.pointer (some ⟨g, 0, none⟩), .int .i64 (-2), .int .i64 b, .func (.func f) #[.pointer (some ⟨g, 0, none⟩)] #[]] w fun e w' => e = .returned (.bool (decide ((Wd - (ss.getD b (0, 0)).1) * (Wd - (ss.getD b (0, 0)).1) ≤ sel b))) ∧ Below w.heap.size w w' := by
  have hbd := h.spotBd hb
  have hfew := h.few
  have hcon := toWall_right b hb h
  have hsz : ∀ W, Below w.heap.size w W → _ := fun W hW => hf W b (by omega) hW
  have hsb := hs b
  clear hf hs h
  obtain ⟨v, hv⟩ : ∃ v, (Wd - (ss.getD b (0, 0)).1) = v := ⟨_, rfl⟩
  rw [hv] at hcon ⊢
  have hv1 : 0 ≤ v ∧ v ≤ 1000 := by rw [← hv]; omega
  have b1 := mul_bd (a := v) (b := v) (M := 1000) (N := 1000) hv1.1 hv1.2 hv1.1 hv1.2
  clear hv hbd
  have hlt1 : (-2 : Int) < (b : Int) := by omega
  generalize sel b = t at hsz hsb ⊢
  go_enter Try.func79, Try.ntmps79
  go_wp2_with fail
  refine hcon.mono ?_
  rintro e w1 ⟨rfl, hb1⟩
  have hcall := hsz w1 hb1
  clear hsz hcon
  go_wp2_with fail
  refine hcall.mono ?_
  rintro e w2 ⟨rfl, rfl⟩
  go_wp2
  go_ret
  exact ⟨rfl, hb1⟩

set_option maxHeartbeats 1000000 in
theorem meet_lt_spots (f : Nat) (ef : ∀ args w, (callFunc f args).run Try.prog w = .ok (.enter f args) w) (sel : Nat → Int) (hf : SizeFn f sel w g) (hs : ∀ i, 0 ≤ sel i ∧ sel i ≤ 500000) (a b : Nat) (hab : a < b) (hb : b < n) (h : IsSized w w.heap.size g Wd A n c A' n' c' ss ds sz) : Calls Try.prog 79 #[.pointer (some ⟨g, 0, none⟩), .int .i64 a, .int .i64 b, .func (.func f) #[.pointer (some ⟨g, 0, none⟩)] #[]] w fun e w' => e = .returned (.bool (reachB (sel a) (sel b) (((ss.getD a (0, 0)).1 - (ss.getD b (0, 0)).1) * ((ss.getD a (0, 0)).1 - (ss.getD b (0, 0)).1) + ((ss.getD a (0, 0)).2 - (ss.getD b (0, 0)).2) * ((ss.getD a (0, 0)).2 - (ss.getD b (0, 0)).2)))) ∧ Below w.heap.size w w' := by
  have ha : a < n := by omega
  obtain ⟨bb, off, rfl, hxa, hya⟩ := h.spotAt ha
  obtain ⟨bb', off', hA, hxb, hyb⟩ := h.spotAt hb
  obtain ⟨rfl, rfl⟩ : bb' = bb ∧ off' = off := by simp at hA; exact ⟨hA.1.symm, hA.2.symm⟩
  clear hA
  have h1 := h.h1
  have hba := h.spotBd ha
  have hbb := h.spotBd hb
  have hfew := h.few
  have hsa : ∀ W, Below w.heap.size w W → _ := fun W hW => hf W a (by omega) hW
  have hsb : ∀ W, Below w.heap.size w W → _ := fun W hW => hf W b (by omega) hW
  have hta := hs a
  have htb := hs b
  clear hf hs h
  generalize ss.getD a (0, 0) = s at hxa hya hba ⊢
  generalize ss.getD b (0, 0) = t at hxb hyb hbb ⊢
  generalize sel a = ta at hsa hta ⊢
  generalize sel b = tb at hsb htb ⊢
  obtain ⟨s1, s2⟩ := s
  obtain ⟨t1, t2⟩ := t
  have haz : (a : Int) < n := by omega
  have hbz : (b : Int) < n := by omega
  have habz : (a : Int) < b := by omega
  have b1 : 0 ≤ (s1 - t1) * (s1 - t1) ∧ (s1 - t1) * (s1 - t1) ≤ 1000000 := by
    rcases Int.le_total t1 s1 with h | h
    · exact mul_bd (a := s1 - t1) (b := s1 - t1) (M := 1000) (N := 1000) (by omega) (by simp at hba hbb; omega) (by omega) (by simp at hba hbb; omega)
    · rw [show (s1 - t1) * (s1 - t1) = (t1 - s1) * (t1 - s1) from by rw [← Int.neg_mul_neg]; simp [Int.neg_sub]]
      exact mul_bd (a := t1 - s1) (b := t1 - s1) (M := 1000) (N := 1000) (by omega) (by simp at hba hbb; omega) (by omega) (by simp at hba hbb; omega)
  have b2 : 0 ≤ (s2 - t2) * (s2 - t2) ∧ (s2 - t2) * (s2 - t2) ≤ 1000000 := by
    rcases Int.le_total t2 s2 with h | h
    · exact mul_bd (a := s2 - t2) (b := s2 - t2) (M := 1000) (N := 1000) (by omega) (by simp at hba hbb; omega) (by omega) (by simp at hba hbb; omega)
    · rw [show (s2 - t2) * (s2 - t2) = (t2 - s2) * (t2 - s2) from by rw [← Int.neg_mul_neg]; simp [Int.neg_sub]]
      exact mul_bd (a := t2 - s2) (b := t2 - s2) (M := 1000) (N := 1000) (by omega) (by simp at hba hbb; omega) (by omega) (by simp at hba hbb; omega)
  simp only at hxa hya hxb hyb hba hbb ⊢
  obtain ⟨r, hr⟩ : ∃ r, reachB ta tb ((s1 - t1) * (s1 - t1) + (s2 - t2) * (s2 - t2)) = r := ⟨_, rfl⟩
  rw [hr]
  have HRR := Lib.hid hr
  clear hr
  go_enter Try.func79, Try.ntmps79
  go_wp2_with fail
  go_quiet (fail)
  have c1 := hsa _ (below_drewN (Below.refl _ _) nq)
  have c2 := hsb _ (below_drewN (Below.refl _ _) nq)
  clear hsa hsb
  go_wp2_with fail
  refine c1.mono ?_
  rintro e w1 ⟨rfl, rfl⟩
  go_wp2_with fail
  refine c2.mono ?_
  rintro e w1 ⟨rfl, rfl⟩
  go_wp2_with fail
  refine (reach_any _ _ _ _ hta.1 hta.2 htb.1 htb.2 (by omega) (by omega)).mono ?_
  rw [HRR.out]
  rintro e w1 ⟨rfl, rfl⟩
  go_wp2
  go_ret
  exact ⟨rfl, below_drewN (Below.refl _ _) _⟩

set_option maxHeartbeats 400000 in
theorem meet_gt_walls (f : Nat) (a b : Int) (hab : a < b) (hb : b < 0) : Calls Try.prog 79 #[.pointer (some ⟨g, 0, none⟩), .int .i64 b, .int .i64 a, .func (.func f) #[.pointer (some ⟨g, 0, none⟩)] #[]] w fun e w' => e = .returned (.bool false) ∧ Below w.heap.size w w' := by
  go_enter Try.func79, Try.ntmps79
  go_wp2_with fail
  go_ret
  exact ⟨rfl, Below.refl _ _⟩

set_option maxHeartbeats 400000 in
theorem meet_gt_left (f : Nat) (ef : ∀ args w, (callFunc f args).run Try.prog w = .ok (.enter f args) w) (sel : Nat → Int) (hf : SizeFn f sel w g) (hs : ∀ i, 0 ≤ sel i ∧ sel i ≤ 500000) (b : Nat) (hb : b < n) (h : IsSized w w.heap.size g Wd A n c A' n' c' ss ds sz) : Calls Try.prog 79 #[.pointer (some ⟨g, 0, none⟩), .int .i64 b, .int .i64 (-1), .func (.func f) #[.pointer (some ⟨g, 0, none⟩)] #[]] w fun e w' => e = .returned (.bool (decide ((ss.getD b (0, 0)).1 * (ss.getD b (0, 0)).1 ≤ sel b))) ∧ Below w.heap.size w w' := by
  have hbd := h.spotBd hb
  have hfew := h.few
  have hcon := toWall_left b hb h
  have hsz : ∀ W, Below w.heap.size w W → _ := fun W hW => hf W b (by omega) hW
  have hsb := hs b
  clear hf hs h
  obtain ⟨v, hv⟩ : ∃ v, (ss.getD b (0, 0)).1 = v := ⟨_, rfl⟩
  rw [hv] at hcon ⊢
  have hv1 : 0 ≤ v ∧ v ≤ 1000 := by rw [← hv]; omega
  have b1 := mul_bd (a := v) (b := v) (M := 1000) (N := 1000) hv1.1 hv1.2 hv1.1 hv1.2
  clear hv hbd
  have hlt1 : (-1 : Int) < (b : Int) := by omega
  generalize sel b = t at hsz hsb ⊢
  go_enter Try.func79, Try.ntmps79
  go_wp2_with fail
  refine hcon.mono ?_
  rintro e w1 ⟨rfl, hb1⟩
  have hcall := hsz w1 hb1
  clear hsz hcon
  go_wp2_with fail
  refine hcall.mono ?_
  rintro e w2 ⟨rfl, rfl⟩
  go_wp2
  go_ret
  exact ⟨rfl, hb1⟩

set_option maxHeartbeats 400000 in
theorem meet_gt_right (f : Nat) (ef : ∀ args w, (callFunc f args).run Try.prog w = .ok (.enter f args) w) (sel : Nat → Int) (hf : SizeFn f sel w g) (hs : ∀ i, 0 ≤ sel i ∧ sel i ≤ 500000) (b : Nat) (hb : b < n) (h : IsSized w w.heap.size g Wd A n c A' n' c' ss ds sz) : Calls Try.prog 79 #[.pointer (some ⟨g, 0, none⟩), .int .i64 b, .int .i64 (-2), .func (.func f) #[.pointer (some ⟨g, 0, none⟩)] #[]] w fun e w' => e = .returned (.bool (decide ((Wd - (ss.getD b (0, 0)).1) * (Wd - (ss.getD b (0, 0)).1) ≤ sel b))) ∧ Below w.heap.size w w' := by
  have hbd := h.spotBd hb
  have hfew := h.few
  have hcon := toWall_right b hb h
  have hsz : ∀ W, Below w.heap.size w W → _ := fun W hW => hf W b (by omega) hW
  have hsb := hs b
  clear hf hs h
  obtain ⟨v, hv⟩ : ∃ v, (Wd - (ss.getD b (0, 0)).1) = v := ⟨_, rfl⟩
  rw [hv] at hcon ⊢
  have hv1 : 0 ≤ v ∧ v ≤ 1000 := by rw [← hv]; omega
  have b1 := mul_bd (a := v) (b := v) (M := 1000) (N := 1000) hv1.1 hv1.2 hv1.1 hv1.2
  clear hv hbd
  have hlt1 : (-2 : Int) < (b : Int) := by omega
  generalize sel b = t at hsz hsb ⊢
  go_enter Try.func79, Try.ntmps79
  go_wp2_with fail
  refine hcon.mono ?_
  rintro e w1 ⟨rfl, hb1⟩
  have hcall := hsz w1 hb1
  clear hsz hcon
  go_wp2_with fail
  refine hcall.mono ?_
  rintro e w2 ⟨rfl, rfl⟩
  go_wp2
  go_ret
  exact ⟨rfl, hb1⟩

set_option maxHeartbeats 1000000 in
theorem meet_gt_spots (f : Nat) (ef : ∀ args w, (callFunc f args).run Try.prog w = .ok (.enter f args) w) (sel : Nat → Int) (hf : SizeFn f sel w g) (hs : ∀ i, 0 ≤ sel i ∧ sel i ≤ 500000) (a b : Nat) (hab : a < b) (hb : b < n) (h : IsSized w w.heap.size g Wd A n c A' n' c' ss ds sz) : Calls Try.prog 79 #[.pointer (some ⟨g, 0, none⟩), .int .i64 b, .int .i64 a, .func (.func f) #[.pointer (some ⟨g, 0, none⟩)] #[]] w fun e w' => e = .returned (.bool (reachB (sel a) (sel b) (((ss.getD a (0, 0)).1 - (ss.getD b (0, 0)).1) * ((ss.getD a (0, 0)).1 - (ss.getD b (0, 0)).1) + ((ss.getD a (0, 0)).2 - (ss.getD b (0, 0)).2) * ((ss.getD a (0, 0)).2 - (ss.getD b (0, 0)).2)))) ∧ Below w.heap.size w w' := by
  have ha : a < n := by omega
  obtain ⟨bb, off, rfl, hxa, hya⟩ := h.spotAt ha
  obtain ⟨bb', off', hA, hxb, hyb⟩ := h.spotAt hb
  obtain ⟨rfl, rfl⟩ : bb' = bb ∧ off' = off := by simp at hA; exact ⟨hA.1.symm, hA.2.symm⟩
  clear hA
  have h1 := h.h1
  have hba := h.spotBd ha
  have hbb := h.spotBd hb
  have hfew := h.few
  have hsa : ∀ W, Below w.heap.size w W → _ := fun W hW => hf W a (by omega) hW
  have hsb : ∀ W, Below w.heap.size w W → _ := fun W hW => hf W b (by omega) hW
  have hta := hs a
  have htb := hs b
  clear hf hs h
  generalize ss.getD a (0, 0) = s at hxa hya hba ⊢
  generalize ss.getD b (0, 0) = t at hxb hyb hbb ⊢
  generalize sel a = ta at hsa hta ⊢
  generalize sel b = tb at hsb htb ⊢
  obtain ⟨s1, s2⟩ := s
  obtain ⟨t1, t2⟩ := t
  have haz : (a : Int) < n := by omega
  have hbz : (b : Int) < n := by omega
  have habz : (a : Int) < b := by omega
  have b1 : 0 ≤ (s1 - t1) * (s1 - t1) ∧ (s1 - t1) * (s1 - t1) ≤ 1000000 := by
    rcases Int.le_total t1 s1 with h | h
    · exact mul_bd (a := s1 - t1) (b := s1 - t1) (M := 1000) (N := 1000) (by omega) (by simp at hba hbb; omega) (by omega) (by simp at hba hbb; omega)
    · rw [show (s1 - t1) * (s1 - t1) = (t1 - s1) * (t1 - s1) from by rw [← Int.neg_mul_neg]; simp [Int.neg_sub]]
      exact mul_bd (a := t1 - s1) (b := t1 - s1) (M := 1000) (N := 1000) (by omega) (by simp at hba hbb; omega) (by omega) (by simp at hba hbb; omega)
  have b2 : 0 ≤ (s2 - t2) * (s2 - t2) ∧ (s2 - t2) * (s2 - t2) ≤ 1000000 := by
    rcases Int.le_total t2 s2 with h | h
    · exact mul_bd (a := s2 - t2) (b := s2 - t2) (M := 1000) (N := 1000) (by omega) (by simp at hba hbb; omega) (by omega) (by simp at hba hbb; omega)
    · rw [show (s2 - t2) * (s2 - t2) = (t2 - s2) * (t2 - s2) from by rw [← Int.neg_mul_neg]; simp [Int.neg_sub]]
      exact mul_bd (a := t2 - s2) (b := t2 - s2) (M := 1000) (N := 1000) (by omega) (by simp at hba hbb; omega) (by omega) (by simp at hba hbb; omega)
  simp only at hxa hya hxb hyb hba hbb ⊢
  obtain ⟨r, hr⟩ : ∃ r, reachB ta tb ((s1 - t1) * (s1 - t1) + (s2 - t2) * (s2 - t2)) = r := ⟨_, rfl⟩
  rw [hr]
  have HRR := Lib.hid hr
  clear hr
  go_enter Try.func79, Try.ntmps79
  go_wp2_with fail
  go_quiet (fail)
  have c1 := hsa _ (below_drewN (Below.refl _ _) nq)
  have c2 := hsb _ (below_drewN (Below.refl _ _) nq)
  clear hsa hsb
  go_wp2_with fail
  refine c1.mono ?_
  rintro e w1 ⟨rfl, rfl⟩
  go_wp2_with fail
  refine c2.mono ?_
  rintro e w1 ⟨rfl, rfl⟩
  go_wp2_with fail
  refine (reach_any _ _ _ _ hta.1 hta.2 htb.1 htb.2 (by omega) (by omega)).mono ?_
  rw [HRR.out]
  rintro e w1 ⟨rfl, rfl⟩
  go_wp2
  go_ret
  exact ⟨rfl, below_drewN (Below.refl _ _) _⟩

end
end Go.Proofs.Ytckndnaohggmhaa

/- meet in one statement; kind. -/
namespace Go.Proofs.Ytckndnaohggmhaa
open Go.RowKit Go.Shelf
section
variable {w w' : World} {B C g : Nat} {Wd : Int} {A : Option Addr} {n c : Nat} {A' : Option Addr} {n' c' : Nat} {ss : List (Int × Int)} {ds : List (Int × Int × Int)} {sz : Nat → Int × Int}

theorem meetB_comm (Wd : Int) (ss : List (Int × Int)) (sel : Nat → Int) (a b : Int) : meetB Wd ss sel a b = meetB Wd ss sel b a := by
  unfold meetB; rw [Int.max_comm, Int.min_comm]
theorem meetB_walls (Wd : Int) (ss : List (Int × Int)) (sel : Nat → Int) (a b : Int) (h : a < b) (hb : b < 0) : meetB Wd ss sel a b = false := by
  unfold meetB; rw [Int.max_eq_right (by omega), if_pos hb]
theorem meetB_left (Wd : Int) (ss : List (Int × Int)) (sel : Nat → Int) (b : Nat) : meetB Wd ss sel (-1) b = decide ((ss.getD b (0, 0)).1 * (ss.getD b (0, 0)).1 ≤ sel b) := by
  unfold meetB; rw [Int.max_eq_right (by omega), Int.min_eq_left (by omega), if_neg (by omega), if_pos (by omega)]; simp
theorem meetB_right (Wd : Int) (ss : List (Int × Int)) (sel : Nat → Int) (b : Nat) : meetB Wd ss sel (-2) b = decide ((Wd - (ss.getD b (0, 0)).1) * (Wd - (ss.getD b (0, 0)).1) ≤ sel b) := by
  unfold meetB; rw [Int.max_eq_right (by omega), Int.min_eq_left (by omega), if_neg (by omega), if_pos (by omega)]; simp
theorem meetB_spots (Wd : Int) (ss : List (Int × Int)) (sel : Nat → Int) (a b : Nat) (h : a < b) : meetB Wd ss sel a b =
    reachB (sel a) (sel b) (((ss.getD a (0, 0)).1 - (ss.getD b (0, 0)).1) * ((ss.getD a (0, 0)).1 - (ss.getD b (0, 0)).1) + ((ss.getD a (0, 0)).2 - (ss.getD b (0, 0)).2) * ((ss.getD a (0, 0)).2 - (ss.getD b (0, 0)).2)) := by
  unfold meetB; rw [Int.max_eq_right (by omega), Int.min_eq_left (by omega), if_neg (by omega), if_neg (by omega)]; simp

theorem meet_any (f : Nat) (ef : ∀ args w, (callFunc f args).run Try.prog w = .ok (.enter f args) w) (sel : Nat → Int) (hf : SizeFn f sel w g) (hs : ∀ i, 0 ≤ sel i ∧ sel i ≤ 500000) (one two : Int) (h1 : -2 ≤ one) (h1' : one < n) (h2 : -2 ≤ two) (h2' : two < n)
    (hne : one ≠ two) (h : IsSized w w.heap.size g Wd A n c A' n' c' ss ds sz) :
    Calls Try.prog 79 #[.pointer (some ⟨g, 0, none⟩), .int .i64 one, .int .i64 two, .func (.func f) #[.pointer (some ⟨g, 0, none⟩)] #[]] w fun e w' => e = .returned (.bool (meetB Wd ss sel one two)) ∧ Below w.heap.size w w' := by
  rcases Int.lt_or_gt_of_ne hne with hlt | hlt
  · by_cases hb : two < 0
    · rw [meetB_walls _ _ _ _ _ hlt hb]; exact meet_lt_walls f one two hlt hb
    · obtain ⟨b, rfl⟩ := Int.eq_ofNat_of_zero_le (by omega : 0 ≤ two)
      by_cases ha : one < 0
      · by_cases hl : one = -1
        · subst hl; rw [meetB_left]; exact meet_lt_left f ef sel hf hs b (by omega) h
        · obtain rfl : one = -2 := by omega
          rw [meetB_right]; exact meet_lt_right f ef sel hf hs b (by omega) h
      · obtain ⟨a, rfl⟩ := Int.eq_ofNat_of_zero_le (by omega : 0 ≤ one)
        rw [meetB_spots _ _ _ _ _ (by omega)]; exact meet_lt_spots f ef sel hf hs a b (by omega) (by omega) h
  · rw [meetB_comm]
    by_cases hb : one < 0
    · rw [meetB_walls _ _ _ _ _ hlt hb]; exact meet_gt_walls f two one hlt hb
    · obtain ⟨b, rfl⟩ := Int.eq_ofNat_of_zero_le (by omega : 0 ≤ one)
      by_cases ha : two < 0
      · by_cases hl : two = -1
        · subst hl; rw [meetB_left]; exact meet_gt_left f ef sel hf hs b (by omega) h
        · obtain rfl : two = -2 := by omega
          rw [meetB_right]; exact meet_gt_right f ef sel hf hs b (by omega) h
      · obtain ⟨a, rfl⟩ := Int.eq_ofNat_of_zero_le (by omega : 0 ≤ two)
        rw [meetB_spots _ _ _ _ _ (by omega)]; exact meet_gt_spots f ef sel hf hs a b (by omega) (by omega) h

theorem sizeFn_least (h : IsSized w w.heap.size g Wd A n c A' n' c' ss ds sz) : SizeFn 82 (fun i => (sz i).1) w g := fun _ i hi hW => least_any i hi (h.kept hW (Nat.le_refl _))
theorem sizeFn_most (h : IsSized w w.heap.size g Wd A n c A' n' c' ss ds sz) : SizeFn 80 (fun i => (sz i).2) w g := fun _ i hi hW => most_any i hi (h.kept hW (Nat.le_refl _))
theorem enters82 : ∀ args w, (callFunc 82 args).run Try.prog w = .ok (.enter 82 args) w := enters_of Try.func82 (by kernel_rfl) rfl
theorem enters80 : ∀ args w, (callFunc 80 args).run Try.prog w = .ok (.enter 80 args) w := enters_of Try.func80 (by kernel_rfl) rfl

/-- The kind of two different places. -/
def kindOf (Wd : Int) (ss : List (Int × Int)) (sz : Nat → Int × Int) (one two : Int) : Int :=
  if meetB Wd ss (fun i => (sz i).1) one two then 2 else if meetB Wd ss (fun i => (sz i).2) one two then 1 else 0

theorem kindOf_bd (Wd : Int) (ss : List (Int × Int)) (sz : Nat → Int × Int) (one two : Int) : 0 ≤ kindOf Wd ss sz one two ∧ kindOf Wd ss sz one two ≤ 2 := by
  unfold kindOf; split <;> (try split) <;> omega

set_option maxHeartbeats 400000 in
theorem kind_any (one two : Int) (h1 : -2 ≤ one) (h1' : one < n) (h2 : -2 ≤ two) (h2' : two < n) (hne : one ≠ two) (h : IsSized w w.heap.size g Wd A n c A' n' c' ss ds sz) :
    Calls Try.prog 69 #[.pointer (some ⟨g, 0, none⟩), .int .i64 one, .int .i64 two] w fun e w' => e = .returned (.int .i64 (kindOf Wd ss sz one two)) ∧ Below w.heap.size w w' := by
  have c1 := meet_any 82 enters82 _ (sizeFn_least h) h.lo one two h1 h1' h2 h2' hne h
  have c2 : ∀ W, Below w.heap.size w W → _ := fun W hW => meet_any (w := W) 80 enters80 _ (sizeFn_most ((h.kept hW (Nat.le_refl _)).wider hW.size)) h.hi one two h1 h1' h2 h2' hne ((h.kept hW (Nat.le_refl _)).wider hW.size)
  unfold kindOf
  clear h
  generalize meetB Wd ss (fun i => (sz i).1) one two = q1 at c1 ⊢
  generalize meetB Wd ss (fun i => (sz i).2) one two = q2 at c2 ⊢
  cases q1 with
  | true =>
    go_enter Try.func69, Try.ntmps69
    go_wp2_with fail
    refine c1.mono ?_
    rintro e w1 ⟨rfl, hb1⟩
    go_wp2
    go_ret
    exact ⟨rfl, hb1⟩
  | false =>
    cases q2 with
    | true =>
      go_enter Try.func69, Try.ntmps69
      go_wp2_with fail
      refine c1.mono ?_
      rintro e w1 ⟨rfl, hb1⟩
      have c3 := c2 w1 hb1
      clear c2
      go_wp2_with fail
      refine c3.mono ?_
      rintro e w2 ⟨rfl, hb2⟩
      go_wp2
      go_ret
      exact ⟨rfl, bstep hb1 hb1.size hb2⟩
    | false =>
      go_enter Try.func69, Try.ntmps69
      go_wp2_with fail
      refine c1.mono ?_
      rintro e w1 ⟨rfl, hb1⟩
      have c3 := c2 w1 hb1
      clear c2
      go_wp2_with fail
      refine c3.mono ?_
      rintro e w2 ⟨rfl, hb2⟩
      go_wp2
      go_ret
      exact ⟨rfl, bstep hb1 hb1.size hb2⟩
end
end Go.Proofs.Ytckndnaohggmhaa
