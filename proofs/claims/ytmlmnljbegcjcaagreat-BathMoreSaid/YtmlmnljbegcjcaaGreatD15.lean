/- Texts of one package, joined: Most36, Prices43, RefPrices, RefApartReg, ApartPairs, RefApart, ApartIs. -/
import Derived.Test.YtmlmnljbegcjcaaGreatD9
import Derived.Test.YtmlmnljbegcjcaaGreatD11
import Derived.Test.YtmlmnljbegcjcaaGreatD12
import Derived.Test.YtmlmnljbegcjcaaGreatD14
import Derived.Laws.CopyOwn
/- Most. -/
namespace Go.Proofs.YtmlmnljbegcjcaaGreat
open Go.RowKit Go.Shelf
attribute [local irreducible] bitCells

theorem worths_ok {os : List Odr} (h : ordersErr os = 0) : ∀ o, o ∈ os → 0 ≤ o.worth ∧ o.worth ≤ 100000 := fun _ ho => (ordOk_iff.1 ((orders_ok h).2 _ ho)).2.2
theorem worthBy_top {p : Odr → Bool} : ∀ {os : List Odr}, (∀ o, o ∈ os → 0 ≤ o.worth ∧ o.worth ≤ 100000) → worthBy p os ≤ 100000 * (os.length : Int)
  | [], _ => by simp [worthBy, sumI]
  | o :: os, h => by
    have h1 := worthBy_top (p := p) (os := os) fun x hx => h x (by simp [hx])
    have h2 := h o (by simp)
    rw [worthBy_cons, List.length_cons]
    split <;> push_cast <;> omega
theorem most_range {os : List Odr} (h : ordersErr os = 0) (hl : os.length ≤ 14) (n : Nat) : 0 ≤ (mostOf os n).2 ∧ (mostOf os n).2 ≤ 1400000 := by
  have hw := worths_ok h
  obtain ⟨h1, _⟩ := most_is (fun o ho => (hw o ho).1) n
  rw [h1]
  refine ⟨worth_nonneg (fun o ho => (hw o ho).1) _, ?_⟩
  have := worthBy_top (p := madeB (mostOf os n).1) hw
  unfold worthOf
  omega
theorem most_mono {os : List Odr} (h0 : ∀ o, o ∈ os → 0 ≤ o.worth) {n k : Nat} (h : n ≤ k) : (mostOf os n).2 ≤ (mostOf os k).2 := by
  obtain ⟨h1, _, h3, _, _⟩ := most_is h0 n
  obtain ⟨_, _, _, _, h5⟩ := most_is h0 k
  rw [h1]
  exact h5 _ (by omega)
theorem PlanV.parts {W : World} {v : Value} {bs : List Int} (h : PlanV W v bs) : ∃ A c, v = .slice A bs.length c ∧ (0 < bs.length → ∃ ad, A = some ad ∧ ∀ j x, (bs.map (Value.int .i64))[j]? = some x → W.cell? (ad.add j) = some x) := by
  rcases h with ⟨h, rfl⟩ | ⟨b, off, c, h1, h2, h3, h4, h5⟩
  · exact ⟨none, 0, h, fun h => absurd h (by simp)⟩
  · refine ⟨_, c, h1, fun _ => ⟨_, rfl, fun j x hx => ?_⟩⟩
    rw [List.getElem?_map, Option.map_eq_some_iff] at hx
    obtain ⟨z, hz, rfl⟩ := hx
    by_cases hj : j = 0
    · subst hj; simpa [Addr.add] using h5 0 z hz
    · simpa [Addr.add, hj] using h5 j z hz
theorem splice_all {α : Type} (cur cs : List α) (h : cs.length = cur.length) : splice cur 0 cs = cs := by simp [splice, h]

/-- What Most answers. -/
def MostPost (os : List Odr) (x : Int) (w : World) (e : Ending) (w' : World) : Prop :=
  Ext w w' ∧ ((forErr os x ≠ 0 ∧ e = .returned (.tuple #[.int .i64 0, .slice none 0 0, .int .i64 (forErr os x)])) ∨ (forErr os x = 0 ∧ ∃ v, e = .returned (.tuple #[.int .i64 (mostOf os x.toNat).2, v, .int .i64 0]) ∧ PlanV w' v (mostOf os x.toNat).1))
theorem forErr_zero {os : List Odr} {x : Int} (h : forErr os x = 0) : ordersErr os = 0 ∧ 0 ≤ x ∧ x ≤ 14 := by
  unfold forErr at h
  split at h
  · rename_i h1
    split at h
    · rename_i h2; exact ⟨h1, h2⟩
    · cases h
  · contradiction
theorem one2 : (Tryz.prog.info? 2).map (·.size) = some 1 := by kernel_rfl

set_option maxRecDepth 100000 in
set_option maxHeartbeats 4000000 in
theorem most36_ok {A : Option Addr} {n c : Nat} {os : List Odr} {w : World} (h : IsOrders w A n c os) (k : Nat) (hk : k ≤ 14) (hx : forErr os (k : Int) = 0) :
    Calls Tryz.prog 36 #[.slice A n c, .int .i64 (k : Int)] w fun e w' => Ext w w' ∧ ∃ v, e = .returned (.tuple #[.int .i64 (mostOf os k).2, v, .int .i64 0]) ∧ PlanV w' v (mostOf os k).1 := by
  have h78 := openedFor_any h (k : Int)
  rw [hx] at h78
  have hok := (forErr_zero hx).1
  have hlen := (most_is (fun o ho => (worths_ok hok o ho).1) k).2.2.1
  have hmk : ∀ W : World, (Instr.makeSlice 36 (.int .i64 ((mostOf os k).1.length : Int)) (.int .i64 ((mostOf os k).1.length : Int))).run Tryz.prog W = .ok (.slice (some ⟨W.heap.size, 0, none⟩) (mostOf os k).1.length (mostOf os k).1.length) (W.alloc (.cells (Array.replicate (mostOf os k).1.length (Value.int .i64 0)) 2)) := fun W => by
    rw [run_make36 _ (by omega) W, ← List.toArray_replicate, ← toList_madeCells_one, Nat.mul_one]
  obtain ⟨q, hq⟩ : ∃ q, mostOf os k = q := ⟨_, rfl⟩
  rw [hq] at hlen hmk ⊢
  obtain ⟨bs, mw⟩ := q
  simp only at hlen hmk ⊢
  have HL := Lib.hid (And.intro hlen (And.intro hk hq))
  clear h hx hok hlen
  go_enter Tryz.func36, Tryz.ntmps36
  go_wp2_with fail
  refine h78.mono ?_
  rintro e w1 ⟨e1, ⟨hn, _⟩ | ⟨_, A1, c1, rfl, hbk⟩⟩
  · exact absurd rfl hn
  · have h79 := most_any hbk k (by have := HL.out.2.1; omega)
    rw [HL.out.2.2] at h79
    have HE1 := Lib.hid e1
    clear e1 hbk h78
    go_wp2_with fail
    refine h79.mono ?_
    rintro e w2 ⟨e2, u, rfl, hpv⟩
    obtain ⟨A2, c2, rfl, hsrc⟩ := hpv.parts
    have HE2 := Lib.hid (HE1.out.trans e2)
    have HS := Lib.hid hsrc
    clear e2 hpv hsrc h79
    go_upto_region 5 with fail
    obtain ⟨p9, hp9⟩ : ∃ p9, w2.heap.size = p9 := ⟨_, rfl⟩
    obtain ⟨w3, hw3⟩ : ∃ w3, w2.alloc (.cells #[.slice A2 bs.length c2, .int .i64 mw] 103) = w3 := ⟨_, rfl⟩
    have e3 : Ext w2 w3 := by rw [← hw3]; exact ext_alloc _ _
    have r9 : w3.heap[p9]? = some (.cells #[.slice A2 bs.length c2, .int .i64 mw] 103 (0, 0)) := by rw [← hw3]; exact row_last _ _ _ hp9.symm
    rw [hw3, hp9]
    have d0 : w3.cell? ⟨p9, 0, none⟩ = some (.slice A2 bs.length c2) := cell_of_row _ _ _ _ _ _ r9
    have HS3 := Lib.hid (fun (h : 0 < bs.length) => (by obtain ⟨ad, h1, h2⟩ := HS.out h; exact ⟨ad, h1, fun j x hx => (by
      have h3 := h2 j x hx
      have hb : (ad.add j).block < w2.heap.size := by
        unfold World.cell? at h3
        split at h3
        · rename_i e; exact (Array.getElem?_eq_some_iff.1 e).1
        · cases h3
      exact (Below.cell e3 hb).trans h3)⟩ : ∃ ad, A2 = some ad ∧ ∀ j x, (bs.map (Value.int .i64))[j]? = some x → w3.cell? (ad.add j) = some x))
    have HE3 := Lib.hid (HE2.out.trans e3)
    have HR9 := Lib.hid r9
    clear hw3 hp9 e3 r9
    go_upto_region 6 with fail
    clear d0
    obtain ⟨g, hg⟩ : ∃ g, w3.heap.size = g := ⟨_, rfl⟩
    obtain ⟨w4, hw4⟩ : ∃ w4, w3.alloc (.cells (Array.replicate bs.length (Value.int .i64 0)) 2) = w4 := ⟨_, rfl⟩
    have e4 : Ext w3 w4 := by rw [← hw4]; exact ext_alloc _ _
    have rg : w4.heap[g]? = some (.cells (List.replicate bs.length (Value.int .i64 0)).toArray 2 (0, 0)) := by rw [← hw4, List.toArray_replicate]; exact row_last _ _ _ hg.symm
    have hpg : p9 < g := by rw [← hg]; exact (Array.getElem?_eq_some_iff.1 HR9.out).1
    have HG := Lib.hid (And.intro hpg (show w.heap.size ≤ g from hg ▸ HE3.out.size))
    rw [hw4, hg]
    have HE4 := Lib.hid (HE3.out.trans e4)
    have HR9 := Lib.hid (row_ext HR9.out e4)
    have d0 : w4.cell? ⟨p9, 0, none⟩ = some (.slice A2 bs.length c2) := cell_of_row _ _ _ _ _ _ HR9.out
    have HS4 := Lib.hid (fun (h : 0 < bs.length) => (by obtain ⟨ad, h1, h2⟩ := HS3.out h; exact ⟨ad, h1, fun j x hx => (by
      have h3 := h2 j x hx
      have hb : (ad.add j).block < w3.heap.size := by
        unfold World.cell? at h3
        split at h3
        · rename_i e; exact (Array.getElem?_eq_some_iff.1 e).1
        · cases h3
      exact (Below.cell e4 hb).trans h3)⟩ : ∃ ad, A2 = some ad ∧ ∀ j x, (bs.map (Value.int .i64))[j]? = some x → w4.cell? (ad.add j) = some x))
    have HRG := Lib.hid rg
    clear hw4 hg e4 rg hpg hmk
    go_wp2_with (first | (refine wpList_copy_splice rfl (.tmp 27) (.tmp 29) 36 36 rfl 2 Tryz.underlying36 one2 (some ⟨g, 0, none⟩) A2 bs.length bs.length bs.length c2 rfl rfl g 0 (List.replicate bs.length (Value.int .i64 0)) 2 HRG.out (bs.map (Value.int .i64)) ?c1 ?c2 ?c3 ?c4 g w4 (Below.refl _ _) (Nat.le_refl _) ?c5))
    case c1 => simp
    case c2 =>
      intro h
      obtain ⟨ad, h1, h2⟩ := HS4.out h
      exact ⟨ad, h1, fun j a hj => h2 j _ (by rw [List.getElem?_map, hj]; rfl)⟩
    case c3 => simp
    case c4 => simp [Value.oneCell']
    case c5 =>
      intro w5 hr5 hb5
      rw [splice_all _ _ (by simp)] at hr5
      have HB5 := Lib.hid hb5
      have r9 := (hb5.block p9 HG.out.1).trans HR9.out
      have d1 : w5.cell? ⟨p9, 1, none⟩ = some (.int .i64 mw) := cell_of_row _ _ _ _ _ _ r9
      have hE5 : Hid (Ext w w5) := Lib.hid (Below.trans HE4.out (hb5.mono HG.out.2))
      have hpl : Hid (PlanV w5 (.slice (some ⟨g, 0, none⟩) bs.length bs.length) bs) := Lib.hid (.inr ⟨g, 0, bs.length, rfl, (Array.getElem?_eq_some_iff.1 hr5.out).1, Nat.le_refl _, by have := HL.out; unfold maxLen; omega, fun j x hx => by
        rw [cell_of_row _ _ _ _ _ _ hr5.out]
        simp [hx]⟩)
      clear r9 hb5 hr5 d0
      go_wp2
      exact bodyPost_ret (results_tmp3 rfl _ _ _) rfl ⟨hE5.out, _, rfl, hpl.out⟩
end Go.Proofs.YtmlmnljbegcjcaaGreat

/- Prices. -/
namespace Go.Proofs.YtmlmnljbegcjcaaGreat
open Go.RowKit Go.Shelf
attribute [local irreducible] bitCells
/-- The number for a bath. -/
def stepOf (os : List Odr) (k : Nat) : Int := (mostOf os (k + 1)).2 - (mostOf os k).2
set_option maxRecDepth 100000 in
set_option maxHeartbeats 4000000 in
theorem prices43_ok {A : Option Addr} {n c : Nat} {os : List Odr} {w : World} (h : IsOrders w A n c os) (k : Nat) (hk : k ≤ 14) (hx : forErr os (k : Int) = 0) :
    Calls Tryz.prog 43 #[.slice A n c, .int .i64 (k : Int)] w fun e w' => Ext w w' ∧ ∃ g, e = .returned (.tuple #[.int .i64 (stepOf os k), .slice (some ⟨g, 0, none⟩) os.length os.length, .int .i64 0]) ∧ w'.heap[g]? = some (.cells (cellsI (pricesB os (stepOf os k))) 2 (0, 0)) := by
  have h78 := openedFor_any h (k : Int)
  rw [hx] at h78
  have hok := (forErr_zero hx).1
  have hos := (orders_ok hok).1
  have hm1 := most_range hok (by omega) k
  have hm2 := most_range hok (by omega) (k + 1)
  have hmm := most_mono (os := os) (fun o ho => (worths_ok hok o ho).1) (show k ≤ k + 1 by omega)
  obtain ⟨k1, hk1⟩ : ∃ k1, k + 1 = k1 := ⟨_, rfl⟩
  obtain ⟨y, hy⟩ : ∃ y, stepOf os k = y := ⟨_, rfl⟩
  have hyd : (mostOf os (k + 1)).2 - (mostOf os k).2 = y := hy
  rw [hk1] at hm2 hmm hyd
  have hws : IntKind.i64.wrap ((mostOf os k1).2 - (mostOf os k).2) = y := by rw [hyd]; exact IntWalk.i64_in _ (by omega)
  have hwk : IntKind.i64.wrap ((k : Int) + 1) = (k1 : Int) := by rw [← hk1]; exact IntWalk.i64_in _ (by omega) |>.trans (by omega)
  have HL := Lib.hid (show k1 ≤ 15 ∧ 0 ≤ y ∧ y ≤ 10000000 from ⟨by omega, by omega, by omega⟩)
  have hfd := run_field103
  obtain ⟨m1, hm1'⟩ : ∃ m1, mostOf os k1 = m1 := ⟨_, rfl⟩
  obtain ⟨m0, hm0'⟩ : ∃ m0, mostOf os k = m0 := ⟨_, rfl⟩
  rw [hm1', hm0'] at hws
  rw [hy]
  have HM := Lib.hid (And.intro hm1' hm0')
  clear h hx hok hos hm1 hm2 hmm hk1 hy hyd hm1' hm0'
  go_enter Tryz.func43, Tryz.ntmps43
  go_wp2_with fail
  refine h78.mono ?_
  rintro e w1 ⟨e1, ⟨hn, _⟩ | ⟨_, A1, c1, rfl, hbk⟩⟩
  · exact absurd rfl hn
  · have h79 := most_any hbk k1 HL.out.1
    rw [HM.out.1] at h79
    have HE1 := Lib.hid e1
    have HBK := Lib.hid hbk
    clear e1 hbk h78
    go_wp2_with fail
    refine h79.mono ?_
    rintro e w2 ⟨e2, u, rfl, hpv⟩
    have HE2 := Lib.hid (HE1.out.trans e2)
    have h79b := most_any (HBK.out.ext e2) k (by omega)
    rw [HM.out.2] at h79b
    have HBK := Lib.hid (HBK.out.ext e2)
    clear e2 hpv h79
    go_wp2_with fail
    refine h79b.mono ?_
    rintro e w3 ⟨e3, u2, rfl, hpv⟩
    have HE3 := Lib.hid (HE2.out.trans e3)
    have h80 := prices_any (HBK.out.ext e3) y HL.out.2.1 HL.out.2.2
    clear e3 hpv h79b
    go_wp2_with fail
    refine h80.mono ?_
    rintro e w4 ⟨e4, g, rfl, hg, hrow⟩
    have HE4 := Lib.hid (HE3.out.trans e4)
    have HR := Lib.hid hrow
    clear e4 hg hrow h80
    go_wp2
    exact bodyPost_ret (results_tmp3 rfl _ _ _) rfl ⟨HE4.out, _, rfl, HR.out⟩
end Go.Proofs.YtmlmnljbegcjcaaGreat

/- The reference: CheckPrices. -/
namespace Go.Proofs.YtmlmnljbegcjcaaGreat
open Go.RowKit Go.Shelf
attribute [local irreducible] bitCells

/-- Whether the k-th price is one. -/
def priceAt (os : List Odr) (ps : List Int) (k : Nat) : Prop := 0 ≤ ps.getD k 0 ∧ ps.getD k 0 ≤ (oAt os k).worth
theorem pricesOk_iff {os : List Odr} {ps : List Int} : pricesOk os ps = true ↔ ∀ k, k < ps.length → priceAt os ps k := by
  unfold pricesOk priceAt
  simp [List.all_eq_true, inside]
theorem togTo_range {os : List Odr} (hk : ∀ o, o ∈ os → ordOk o = true) {ps : List Int} (hp : ∀ k, k < os.length → priceAt os ps k) (x : Int) : ∀ k : Nat, k ≤ os.length → 0 ≤ togTo os x ps k ∧ togTo os x ps k ≤ 100000 * (k : Int)
  | 0, _ => by simp [togTo, sumI]
  | k + 1, h => by
    have ih := togTo_range hk hp x k (by omega)
    have h1 := hp k (by omega)
    unfold priceAt at h1
    have h2 := (ordOk_iff.1 (hk _ (oAt_mem (show k < os.length by omega)))).2.2
    rw [togTo_succ]
    generalize ps.getD k 0 = p at h1 ⊢
    split <;> push_cast <;> omega
theorem lack_range {os : List Odr} (hk : ∀ o, o ∈ os → ordOk o = true) {ps : List Int} (hp : ∀ k, k < os.length → priceAt os ps k) : ∀ k : Nat, k ≤ os.length → 0 ≤ lackTo os ps k ∧ lackTo os ps k ≤ 100000 * (k : Int)
  | 0, _ => by simp [lackTo, sumI]
  | k + 1, h => by
    have ih := lack_range hk hp k (by omega)
    have h1 := hp k (by omega)
    unfold priceAt at h1
    have h2 := (ordOk_iff.1 (hk _ (oAt_mem (show k < os.length by omega)))).2.2
    rw [lackTo_succ]
    generalize ps.getD k 0 = p at h1 ⊢
    push_cast
    omega

set_option maxRecDepth 100000 in
set_option maxHeartbeats 8000000 in
theorem refPrices_ok {A : Option Addr} {n c : Nat} {os : List Odr} {w : World} (h : IsOrders w A n c os) (x : Nat) (y : Int) (hF : forErr os (x : Int) = 0) (hy0 : 0 ≤ y) (hy1 : y ≤ 2000000) (A' : Option Addr) (n' c' : Nat) (ps : List Int) (hn' : n' = ps.length) (hl : ps.length = os.length) (hh : Held w w.heap.size 1 encI A' ps) :
    Calls Tryz.prog 45 #[.slice A n c, .int .i64 (x : Int), .int .i64 y, .slice A' n' c'] w (NumPost (pricesAns os x y ps) (pricesErr os x y ps) w) := by
  obtain ⟨hok0, hx0, hx1⟩ := forErr_zero hF
  have hok := orders_ok hok0
  have h37 := refBaths_any h (x : Int)
  rw [hF] at h37
  have h56 := fun W (hW : Ext w W) k hkl => birthsOf_any (h.ext hW) hok.2 k hkl
  have h59 := fun W (hW : Ext w W) x k hkl => made_any (h.ext hW) hok.2 x k hkl
  have hz : pricesErr os x y ps = if pricesOk os ps = true then if rightB os y ps = true then 0 else 14 else 3 := by
    unfold pricesErr
    rw [if_pos hF, if_pos hl]
    have : [y].all (inside 0 2000000) = true := by simp [inside, hy0, hy1]
    rw [this, Bool.true_and]
  have ha : pricesAns os x y ps = if pricesErr os x y ps = 0 then boundB os x y ps else 0 := rfl
  obtain ⟨Z, hZ⟩ : ∃ Z, pricesErr os x y ps = Z := ⟨_, rfl⟩
  obtain ⟨X, hX⟩ : ∃ X, pricesAns os x y ps = X := ⟨_, rfl⟩
  rw [hZ] at hz
  rw [hZ, hX] at ha
  unfold NumPost
  rw [hZ, hX]
  have hbad : ∀ k, k < os.length → ¬ priceAt os ps k → Z = 3 ∧ X = 0 := fun k hk hb => by
    have h3 : Z = 3 := by rw [hz, if_neg (fun hp => hb (pricesOk_iff.1 hp k (by omega)))]
    exact ⟨h3, by rw [ha, h3]; rfl⟩
  have hlow : (∀ k, k < os.length → priceAt os ps k) → ∀ i, i < os.length → ¬ togTo os (bLo (oAt os i)) ps os.length ≤ y → Z = 14 ∧ X = 0 := fun hp i hi hb => by
    have hr : ¬ rightB os y ps = true := fun hr => hb ((right_lo hok.1.2 (fun k => by
      by_cases hk : k < os.length
      · exact (hp k hk).1
      · rw [List.getD_eq_getElem?_getD, List.getElem?_eq_none (by omega)]; exact Int.le_refl _) hy0).1 hr i hi)
    have h3 : Z = 14 := by rw [hz, if_pos (pricesOk_iff.2 fun k hk => hp k (by omega)), if_neg hr]
    exact ⟨h3, by rw [ha, h3]; rfl⟩
  have hfine : (∀ k, k < os.length → priceAt os ps k) → (∀ i, i < os.length → togTo os (bLo (oAt os i)) ps os.length ≤ y) → Z = 0 ∧ X = boundB os x y ps := fun hp hi => by
    have hr : rightB os y ps = true := (right_lo hok.1.2 (fun k => by
      by_cases hk : k < os.length
      · exact (hp k hk).1
      · rw [List.getD_eq_getElem?_getD, List.getElem?_eq_none (by omega)]; exact Int.le_refl _) hy0).2 hi
    have h3 : Z = 0 := by rw [hz, if_pos (pricesOk_iff.2 fun k hk => hp k (by omega)), if_pos hr]
    exact ⟨h3, by rw [ha, if_pos h3]⟩
  have hps : ∀ k (hk : k < ps.length), ps.getD k 0 = ps[k] := fun k hk => by simp [hk]
  have hnn : (n' : Int) = (n : Int) := by have := h.len; omega
  have hn14 : n ≤ 14 := by have := h.len; omega
  obtain ⟨M, hM⟩ : ∃ M, (x : Int) * y = M := ⟨_, rfl⟩
  have hM0 : 0 ≤ M ∧ M ≤ 28000000 := by
    rw [← hM]
    refine ⟨Int.mul_nonneg (by omega) hy0, ?_⟩
    exact Int.le_trans (Int.mul_le_mul (show (x : Int) ≤ 14 by omega) hy1 hy0 (by omega)) (by decide)
  have hmw : IntKind.i64.wrap ((x : Int) * y) = M := by rw [hM]; exact IntWalk.i64_in _ (by omega)
  have hbb : boundB os x y ps = M + lackTo os ps os.length := by rw [← hM]; rfl
  have hy0' : ¬ y < 0 := by omega
  have hy1' : ¬ (2000000 : Int) < y := by omega
  have HO := Lib.hid h
  have HN := Lib.hid (And.intro h.len (And.intro hn' hl))
  have HK := Lib.hid (And.intro hok (And.intro hM0 hbb))
  have HZ := Lib.hid (And.intro hbad (And.intro hlow hfine))
  have HPS := Lib.hid hps
  have HH := Lib.hid hh
  have H56 := Lib.hid h56
  have H59 := Lib.hid h59
  clear hok0 hx0 hx1 hok hF hz ha hZ hX hbad hlow hfine hps h hn' hl hh h56 h59 hM hM0 hbb
  go_enter Tryz.func45, Tryz.ntmps45
  go_wp2_with (refine h37.mono ?_; rintro e w1 ⟨rfl, e1⟩; have HE1 := Lib.hid e1; clear e1 h37)
  go_loopw [10] (fun i wr => ∃ k : Nat, k ≤ n ∧ i = .int .i64 k ∧ Hid (Ext w wr) ∧ Hid (∀ j, j < k → priceAt os ps j)) (fun i _ => n - (intOf i).toNat)
  case atStart => exact ⟨0, Nat.zero_le _, rfl, HE1, Lib.hid fun j h => absurd h (by omega)⟩
  case round =>
    obtain ⟨k, hk, rfl, hE, hA⟩ := hrel
    clear HE1
    by_cases hlt : k < n
    · have hltz : (k : Int) < (n : Int) := by omega
      have hltp : (k : Int) < (n' : Int) := by omega
      have hkl : k < os.length := by rw [← HN.out.1]; exact hlt
      have hkp : k < ps.length := by rw [HN.out.2.2]; exact hkl
      obtain ⟨bo, oo, rfl, hbl, _, _, _, _, c4⟩ := (HO.out.ext hE.out).at hkl
      obtain ⟨b, off, rfl, hc⟩ := int_get (HH.out.ext hE.out) hkp
      have hpa : priceAt os ps k ↔ 0 ≤ ps[k] ∧ ps[k] ≤ os[k].worth := by unfold priceAt; rw [HPS.out k hkp, oAt_get hkl]
      obtain ⟨v, hv⟩ : ∃ v, ps[k] = v := ⟨_, rfl⟩
      obtain ⟨wo, hwo⟩ : ∃ wo, os[k].worth = wo := ⟨_, rfl⟩
      rw [hwo] at c4
      rw [hv] at hc
      rw [hv, hwo] at hpa
      have HC4 : Hid (∀ W, Ext wr W → W.cell? ⟨bo, oo + k * 5 + 4, none⟩ = some (.int .i64 wo)) := Lib.hid fun W hW => (Below.cell hW (p := ⟨bo, oo + k * 5 + 4, none⟩) hbl).trans c4
      have HCX : Hid (∀ W, Ext wr W → W.cell? ⟨b, off + k, none⟩ = some (.int .i64 v)) := Lib.hid fun W hW => by
        have hl : b < wr.heap.size := by
          have h1 := hc
          unfold World.cell? at h1
          split at h1
          · rename_i e; exact (Array.getElem?_eq_some_iff.1 e).1
          · cases h1
        exact (Below.cell hW (p := ⟨b, off + k, none⟩) hl).trans hc
      have HPA := Lib.hid hpa
      clear hpa hv hwo c4 hc hbl hkp
      by_cases h1 : v < 0
      · obtain ⟨rfl, rfl⟩ := HZ.out.1 k hkl (fun hp => by have := HPA.out.1 hp; omega)
        go_upto_region 10 with fail
        refine cpA_wp (b := b) (off := off) (np := n') (cp := c') (kk := k) (x := v) rfl rfl rfl hltp HCX.out h1 ?_
        intro W1 e1
        have HE1 := Lib.hid (hE.out.trans e1)
        simp only [puts, List.foldl_cons, List.foldl_nil, Act.put, List.setIfInBounds_toArray, List.set_cons_succ, List.set_cons_zero]
        clear e1
        go_wp2
        exact bodyPost_ret (results_tmp2 rfl _ _ _) rfl ⟨rfl, HE1.out⟩
      · by_cases h2 : wo < v
        · obtain ⟨rfl, rfl⟩ := HZ.out.1 k hkl (fun hp => by have := HPA.out.1 hp; omega)
          go_upto_region 10 with fail
          refine cpB_wp (b := b) (off := off) (np := n') (cp := c') (bo := bo) (oo := oo) (nn := n) (cc := c) (kk := k) (x := v) (y := wo) rfl rfl rfl rfl hltp HCX.out h1 hltz HC4.out ?_
          intro W1 e1
          have HE1 := Lib.hid (hE.out.trans e1)
          simp only [puts, List.foldl_cons, List.foldl_nil, Act.put, List.setIfInBounds_toArray, List.set_cons_succ, List.set_cons_zero]
          rw [decide_eq_true h2]
          clear e1
          go_wp2
          exact bodyPost_ret (results_tmp2 rfl _ _ _) rfl ⟨rfl, HE1.out⟩
        · have HPK := Lib.hid (HPA.out.2 ⟨by omega, by omega⟩)
          go_upto_region 10 with fail
          refine cpB_wp (b := b) (off := off) (np := n') (cp := c') (bo := bo) (oo := oo) (nn := n) (cc := c) (kk := k) (x := v) (y := wo) rfl rfl rfl rfl hltp HCX.out h1 hltz HC4.out ?_
          intro W1 e1
          have HE1 := Lib.hid (hE.out.trans e1)
          simp only [puts, List.foldl_cons, List.foldl_nil, Act.put, List.setIfInBounds_toArray, List.set_cons_succ, List.set_cons_zero]
          rw [decide_eq_false h2]
          clear e1
          go_wp2
          go_roundw
          case measure => simp [intOf]; omega
          case rel =>
            refine ⟨k + 1, by omega, by go_num, HE1, Lib.hid fun j hj => ?_⟩
            by_cases e : j = k
            · subst e; exact HPK.out
            · exact hA.out j (by omega)
    · have hltz : ¬ (k : Int) < (n : Int) := by omega
      obtain rfl : k = n := by omega
      have HALL : Hid (∀ j, j < os.length → priceAt os ps j) := Lib.hid fun j hj => hA.out j (by have := HN.out.1; omega)
      have hml : M + lackTo os ps 0 = M := by simp [lackTo, sumI]
      have HML := Lib.hid hml
      clear hml hA
      go_wp2
      go_loopw [11, 12] (fun s i wr => ∃ i' : Nat, i' ≤ k ∧ i = .int .i64 i' ∧ s = .int .i64 (M + lackTo os ps i') ∧ Hid (Ext w wr) ∧ Hid (∀ j, j < i' → togTo os (bLo (oAt os j)) ps os.length ≤ y)) (fun _ i _ => k - (intOf i).toNat)
      case atStart => exact ⟨0, Nat.zero_le _, rfl, by rw [HML.out], hE, Lib.hid fun j h => absurd h (by omega)⟩
      case round =>
        obtain ⟨i, hi, rfl, rfl, hE, hA⟩ := hrel
        by_cases hlt : i < k
        · have hltz : (i : Int) < (k : Int) := by omega
          have hltp : (i : Int) < (n' : Int) := by omega
          have hil : i < os.length := by rw [← HN.out.1]; exact hlt
          have hip : i < ps.length := by rw [HN.out.2.2]; exact hil
          obtain ⟨bo, oo, rfl, hbl, _, _, _, _, c4⟩ := (HO.out.ext hE.out).at hil
          obtain ⟨b, off, rfl, hc⟩ := int_get (HH.out.ext hE.out) hip
          have hls := lackTo_succ os ps i
          have hlr := lack_range HK.out.1.2 HALL.out i (by omega)
          have hpi := HALL.out i hil
          have hwi := (ordOk_iff.1 (HK.out.1.2 _ (List.getElem_mem hil))).2.2
          unfold priceAt at hpi
          rw [HPS.out i hip, oAt_get hil] at hls hpi
          have h56i := fun W (hW : Ext w W) => H56.out W hW i hil
          have hlo : bLo (oAt os i) = bLo os[i] := by rw [oAt_get hil]
          obtain ⟨v, hv⟩ : ∃ v, ps[i] = v := ⟨_, rfl⟩
          obtain ⟨wo, hwo⟩ : ∃ wo, os[i].worth = wo := ⟨_, rfl⟩
          obtain ⟨lo, hlo2⟩ : ∃ lo, bLo os[i] = lo := ⟨_, rfl⟩
          obtain ⟨hi2, hhi2⟩ : ∃ hi2, bHi os[i] = hi2 := ⟨_, rfl⟩
          rw [hwo] at c4 hls hpi hwi
          rw [hv] at hc hls hpi
          rw [hlo2] at hlo
          simp only [hlo2, hhi2] at h56i
          obtain ⟨s, hs⟩ : ∃ s, M + lackTo os ps i = s := ⟨_, rfl⟩
          obtain ⟨t, ht⟩ : ∃ t, M + lackTo os ps (i + 1) = t := ⟨_, rfl⟩
          have hu : IntKind.i64.wrap (wo - v) = wo - v := IntWalk.i64_in _ (by omega)
          have hk0 := HK.out
          have hst : IntKind.i64.wrap (s + (wo - v)) = t := by
            rw [← hs, ← ht, hls]
            rw [show M + lackTo os ps i + (wo - v) = M + (lackTo os ps i + (wo - v)) from by omega]
            exact IntWalk.i64_in _ (by omega)
          rw [hs]
          have HC4 : Hid (∀ W, Ext wr W → W.cell? ⟨bo, oo + i * 5 + 4, none⟩ = some (.int .i64 wo)) := Lib.hid fun W hW => (Below.cell hW (p := ⟨bo, oo + i * 5 + 4, none⟩) hbl).trans c4
          have HCX : Hid (∀ W, Ext wr W → W.cell? ⟨b, off + i, none⟩ = some (.int .i64 v)) := Lib.hid fun W hW => by
            have hl : b < wr.heap.size := by
              have h1 := hc
              unfold World.cell? at h1
              split at h1
              · rename_i e; exact (Array.getElem?_eq_some_iff.1 e).1
              · cases h1
            exact (Below.cell hW (p := ⟨b, off + i, none⟩) hl).trans hc
          have H56i := Lib.hid h56i
          have HLO := Lib.hid hlo
          have HT := Lib.hid ht
          clear hls hlr hpi hwi h56i hlo hv hwo hlo2 hhi2 hs ht hk0 c4 hc hbl hip
          go_upto_region 16 with fail
          refine cp16_wp (b := b) (off := off) (np := n') (cp := c') (bo := bo) (oo := oo) (nn := k) (cc := c) (kk := i) (x := v) (y := wo) (s := s) (t := t) (u := wo - v) rfl rfl rfl rfl rfl hltz HC4.out hltp HCX.out hu hst ?_
          intro W1 e1
          have HE1 := Lib.hid (hE.out.trans e1)
          obtain ⟨o12, hdr, h12⟩ : ∃ o12, cp16Reg.toList.drop 12 = [o12] ∧ cp16Reg[12]? = some o12 := by
            have hs : cp16Reg.size = 13 := by kernel_rfl
            refine ⟨cp16Reg[12], ?_, Array.getElem?_eq_getElem _⟩
            rw [List.drop_eq_getElem_cons (by simp [hs]), List.drop_eq_nil_of_le (by simp [hs])]
            simp
          rw [hdr]
          simp only [puts, List.foldl_cons, List.foldl_nil, Act.put, List.setIfInBounds_toArray, List.set_cons_succ, List.set_cons_zero]
          refine wpList_one (v := .int .i64 t) (op_at h12 (·.guard) (x := none) (by kernel_rfl)) (by simp [execOp, show o12.op = .assign (.tmp 76) from op_at h12 (·.op) (by kernel_rfl), go_sem]) ?_
          rw [show o12.dst = some 11 from op_at h12 (·.dst) (by kernel_rfl)]
          simp only [Act.put, List.setIfInBounds_toArray, List.set_cons_succ, List.set_cons_zero]
          have hf0 := run_field26_0
          clear e1 hdr h12 hu hst
          go_wp2
          go_loopw [13, 14] (fun sm j wr => ∃ j' : Nat, j' ≤ k ∧ j = .int .i64 j' ∧ sm = .int .i64 (togTo os lo ps j') ∧ Hid (Ext w wr)) (fun _ j _ => k - (intOf j).toNat)
          case atStart => exact ⟨0, Nat.zero_le _, rfl, by simp [togTo, sumI], HE1⟩
          case round =>
            obtain ⟨j, hj, rfl, rfl, hE2⟩ := hrel
            by_cases hlt2 : j < k
            · have hltz2 : (j : Int) < (k : Int) := by omega
              have hltp2 : (j : Int) < (n' : Int) := by omega
              have hjl : j < os.length := by rw [← HN.out.1]; exact hlt2
              have hjp : j < ps.length := by rw [HN.out.2.2]; exact hjl
              have hts := togTo_succ os lo ps j
              have htr := togTo_range HK.out.1.2 HALL.out lo j (by omega)
              have htr1 := togTo_range HK.out.1.2 HALL.out lo (j + 1) (by omega)
              rw [does_iff hjl, HPS.out j hjp, oAt_get hjl] at hts
              have h56 := H56i.out wr hE2.out
              have h59 := fun W (hW : Ext w W) => H59.out W hW lo j hjl
              have hgj := fun W (hW : Ext w W) => int_get (HH.out.ext hW) hjp
              obtain ⟨q, hq⟩ : ∃ q, doneB lo os[j] = q := ⟨_, rfl⟩
              obtain ⟨v2, hv2⟩ : ∃ v2, ps[j] = v2 := ⟨_, rfl⟩
              rw [hq, hv2] at hts
              simp only [hq] at h59
              simp only [hv2] at hgj
              obtain ⟨sm, hsm⟩ : ∃ sm, togTo os lo ps j = sm := ⟨_, rfl⟩
              obtain ⟨sm1, hsm1⟩ : ∃ sm1, togTo os lo ps (j + 1) = sm1 := ⟨_, rfl⟩
              rw [hsm] at hts htr ⊢
              rw [hsm1] at hts htr1
              have HS1 := Lib.hid hsm1
              have H59j := Lib.hid h59
              have HGJ := Lib.hid hgj
              cases q with
              | true =>
                rw [if_pos rfl] at hts
                have hwr : IntKind.i64.wrap (sm + v2) = sm1 := by rw [← hts]; exact IntWalk.i64_in _ (by omega)
                clear hts htr htr1 hq hv2 hsm hsm1 h59 hgj hjp
                go_wp2_with fail
                refine h56.mono ?_
                rintro e w3 ⟨rfl, e3⟩
                have HE3 := Lib.hid (hE2.out.trans e3)
                have h59 := H59j.out w3 HE3.out
                clear e3 h56
                go_wp2_with fail
                refine h59.mono ?_
                rintro e w4 ⟨rfl, e4⟩
                have HE4 := Lib.hid (HE3.out.trans e4)
                obtain ⟨b9, off9, hA9, hc9⟩ := HGJ.out w4 HE4.out
                injection hA9 with hA9; injection hA9 with hA9 hA9'
                subst hA9 hA9'
                clear e4 h59
                go_wp2
                go_roundw
                case measure => simp [intOf]; omega
                case rel => exact ⟨j + 1, by omega, by go_num, by rw [HS1.out], HE4⟩
              | false =>
                rw [if_neg (by decide), Int.add_zero] at hts
                clear htr htr1 hq hv2 hsm hsm1 h59 hgj hjp
                have HTS := Lib.hid hts
                clear hts
                go_wp2_with fail
                refine h56.mono ?_
                rintro e w3 ⟨rfl, e3⟩
                have HE3 := Lib.hid (hE2.out.trans e3)
                have h59 := H59j.out w3 HE3.out
                clear e3 h56
                go_wp2_with fail
                refine h59.mono ?_
                rintro e w4 ⟨rfl, e4⟩
                have HE4 := Lib.hid (HE3.out.trans e4)
                clear e4 h59
                go_wp2
                go_roundw
                case measure => simp [intOf]; omega
                case rel => exact ⟨j + 1, by omega, by go_num, by rw [HS1.out, HTS.out], HE4⟩
            · have hltz2 : ¬ (j : Int) < (k : Int) := by omega
              obtain rfl : j = k := by omega
              by_cases hc : togTo os lo ps j ≤ y
              · have hcz : ¬ y < togTo os lo ps j := by omega
                have HCZ := Lib.hid (show togTo os (bLo (oAt os i)) ps os.length ≤ y from by rw [HLO.out, ← HN.out.1]; exact hc)
                obtain ⟨sm, hsm⟩ : ∃ sm, togTo os lo ps j = sm := ⟨_, rfl⟩
                rw [hsm] at hcz ⊢
                clear hc hsm
                go_wp2
                go_roundw
                case measure => simp [intOf]; omega
                case rel =>
                  refine ⟨i + 1, by omega, by go_num, by rw [HT.out], hE2, Lib.hid fun z hz => ?_⟩
                  by_cases e : z = i
                  · subst e; exact HCZ.out
                  · exact hA.out z (by omega)
              · have hcz : y < togTo os lo ps j := by omega
                obtain ⟨rfl, rfl⟩ := HZ.out.2.1 HALL.out i hil (by rw [HLO.out, ← HN.out.1]; first | exact hc | exact hcz)
                obtain ⟨sm, hsm⟩ : ∃ sm, togTo os lo ps j = sm := ⟨_, rfl⟩
                rw [hsm] at hcz ⊢
                clear hc hsm
                go_wp2
                exact bodyPost_ret (results_tmp2 rfl _ _ _) rfl ⟨rfl, hE2.out⟩
        · have hltz : ¬ (i : Int) < (k : Int) := by omega
          obtain rfl : i = k := by omega
          obtain ⟨rfl, hX⟩ := HZ.out.2.2 HALL.out fun z hz => hA.out z (by have := HN.out.1; omega)
          rw [HK.out.2.2, ← HN.out.1] at hX
          obtain ⟨s, hs⟩ : ∃ s, M + lackTo os ps i = s := ⟨_, rfl⟩
          rw [hs] at hX ⊢
          subst hX
          clear hs
          go_wp2
          exact bodyPost_ret (results_tmp2 rfl _ _ _) rfl ⟨rfl, hE.out⟩
set_option maxRecDepth 100000 in
set_option maxHeartbeats 4000000 in
theorem refPrices_for {A : Option Addr} {n c : Nat} {os : List Odr} {w : World} (h : IsOrders w A n c os) (x y : Int) (hF : forErr os x ≠ 0) (A' : Option Addr) (n' c' : Nat) :
    Calls Tryz.prog 45 #[.slice A n c, .int .i64 x, .int .i64 y, .slice A' n' c'] w (NumPost 0 (forErr os x) w) := by
  have h37 := fun W (hW : Ext w W) => refBaths_any (h.ext hW) x
  obtain ⟨E, hE⟩ : ∃ E, forErr os x = E := ⟨_, rfl⟩
  unfold NumPost
  rw [hE] at hF ⊢
  simp only [hE] at h37
  have heb : (E != 0) = true := by simp [hF]
  have h0 := h37 w (Ext.refl w)
  have H37 := Lib.hid h37
  clear h hE h37
  go_enter Tryz.func45, Tryz.ntmps45
  go_wp2_with fail
  refine h0.mono ?_
  rintro e w1 ⟨rfl, e1⟩
  have HE1 := Lib.hid e1
  have h1 := H37.out w1 e1
  clear e1 h0
  go_wp2_with fail
  refine h1.mono ?_
  rintro e w2 ⟨rfl, e2⟩
  have HE2 := Lib.hid (HE1.out.trans e2)
  clear e2 h1
  go_wp2
  exact bodyPost_ret (results_tmp2 rfl _ _ _) rfl ⟨rfl, HE2.out⟩
set_option maxRecDepth 100000 in
set_option maxHeartbeats 4000000 in
theorem refPrices_len {A : Option Addr} {n c : Nat} {os : List Odr} {w : World} (h : IsOrders w A n c os) (x y : Int) (hF : forErr os x = 0) (A' : Option Addr) (n' c' : Nat) (hl : n' ≠ n) :
    Calls Tryz.prog 45 #[.slice A n c, .int .i64 x, .int .i64 y, .slice A' n' c'] w (NumPost 0 15 w) := by
  have h37 := refBaths_any h x
  rw [hF] at h37
  unfold NumPost
  have hlz : ((n' : Int) != (n : Int)) = true := by simp; omega
  clear h hF
  go_enter Tryz.func45, Tryz.ntmps45
  go_wp2_with fail
  refine h37.mono ?_
  rintro e w1 ⟨rfl, e1⟩
  have HE1 := Lib.hid e1
  clear e1 h37
  go_wp2
  exact bodyPost_ret (results_tmp2 rfl _ _ _) rfl ⟨rfl, HE1.out⟩
set_option maxRecDepth 100000 in
set_option maxHeartbeats 4000000 in
theorem refPrices_num {A : Option Addr} {n c : Nat} {os : List Odr} {w : World} (h : IsOrders w A n c os) (x y : Int) (hF : forErr os x = 0) (A' : Option Addr) (c' : Nat) (hy : y < 0 ∨ 2000000 < y) :
    Calls Tryz.prog 45 #[.slice A n c, .int .i64 x, .int .i64 y, .slice A' n c'] w (NumPost 0 3 w) := by
  have h37 := refBaths_any h x
  rw [hF] at h37
  unfold NumPost
  clear h hF
  by_cases h1 : y < 0
  · clear hy
    go_enter Tryz.func45, Tryz.ntmps45
    go_wp2_with fail
    refine h37.mono ?_
    rintro e w1 ⟨rfl, e1⟩
    have HE1 := Lib.hid e1
    clear e1 h37
    go_wp2
    exact bodyPost_ret (results_tmp2 rfl _ _ _) rfl ⟨rfl, HE1.out⟩
  · have h2 : 2000000 < y := by omega
    clear hy
    go_enter Tryz.func45, Tryz.ntmps45
    go_wp2_with fail
    refine h37.mono ?_
    rintro e w1 ⟨rfl, e1⟩
    have HE1 := Lib.hid e1
    clear e1 h37
    go_wp2
    exact bodyPost_ret (results_tmp2 rfl _ _ _) rfl ⟨rfl, HE1.out⟩
theorem refPrices_any {A : Option Addr} {n c : Nat} {os : List Odr} {w : World} (h : IsOrders w A n c os) (x y : Int) (A' : Option Addr) (n' c' : Nat) (ps : List Int) (hn' : n' = ps.length) (hh : Held w w.heap.size 1 encI A' ps) :
    Calls Tryz.prog 45 #[.slice A n c, .int .i64 x, .int .i64 y, .slice A' n' c'] w (NumPost (pricesAns os x y ps) (pricesErr os x y ps) w) := by
  by_cases hF : forErr os x = 0
  · obtain ⟨_, h0, h1⟩ := forErr_zero hF
    by_cases hl : ps.length = os.length
    · by_cases hy : 0 ≤ y ∧ y ≤ 2000000
      · obtain ⟨k, rfl⟩ : ∃ k : Nat, x = (k : Int) := ⟨x.toNat, by omega⟩
        exact refPrices_ok h k y hF hy.1 hy.2 A' n' c' ps hn' hl hh
      · have he : pricesErr os x y ps = 3 := by
          unfold pricesErr
          rw [if_pos hF, if_pos hl]
          have : [y].all (inside 0 2000000) = false := by
            simp only [List.all_cons, List.all_nil, Bool.and_true, inside, Bool.and_eq_false_iff, decide_eq_false_iff_not]
            omega
          rw [this]; rfl
        have ha : pricesAns os x y ps = 0 := by unfold pricesAns; rw [he]; rfl
        rw [he, ha]
        obtain rfl : n' = n := by rw [hn', hl, h.len]
        exact refPrices_num h x y hF A' c' (by omega)
    · have he : pricesErr os x y ps = 15 := by unfold pricesErr; rw [if_pos hF, if_neg hl]
      have ha : pricesAns os x y ps = 0 := by unfold pricesAns; rw [he]; rfl
      rw [he, ha]
      exact refPrices_len h x y hF A' n' c' (by rw [hn', h.len]; exact hl)
  · have he : pricesErr os x y ps = forErr os x := by unfold pricesErr; rw [if_neg hF]
    have ha : pricesAns os x y ps = 0 := by unfold pricesAns; rw [he, if_neg hF]
    rw [he, ha]
    exact refPrices_for h x y hF A' n' c'
end Go.Proofs.YtmlmnljbegcjcaaGreat

/- The reference: CheckApart's regions. -/
namespace Go.Proofs.YtmlmnljbegcjcaaGreat
open Go.RowKit Go.Shelf

/-- The slots of region 6 of function 34. -/
def caD (i : Nat) : Tmp := if i = 0 then 22 else if i = 1 then 23 else if i = 2 then 24 else if i = 3 then 25 else if i = 4 then 26 else if i = 5 then 27 else if i = 6 then 28 else if i = 7 then 29 else if i = 8 then 30 else if i = 9 then 31 else if i = 10 then 32 else if i = 11 then 33 else if i = 12 then 34 else if i = 13 then 35 else if i = 14 then 36 else if i = 15 then 37 else if i = 16 then 38 else if i = 17 then 39 else if i = 18 then 40 else if i = 19 then 41 else if i = 20 then 42 else if i = 21 then 43 else 44
noncomputable def caReg : Array Oper := (Tryz.f34.body.bind (regionOf · 6)).getD #[]
theorem ca_size : caReg.size = 23 := by kernel_rfl
/-- What each operation yields. -/
def caAS (A : Option Addr) (nn cc b off np cp kk : Nat) (x : Int) (ix : Nat) (v : Value) (_ : World) : Prop :=
  match ix with
  | 0 => v = .slice A nn cc
  | 1 => v = .slice (some ⟨b, off, none⟩) np cp
  | 2 => v = .int .i64 (kk : Int)
  | 3 => v = .pointer (some ⟨b, off + kk, none⟩)
  | 4 => v = .int .i64 x
  | 5 => v = .bool false
  | 6 => v = .bool true
  | 7 => v = .bool true
  | 8 => v = undef
  | 9 => v = undef
  | 10 => v = undef
  | 11 => v = undef
  | 12 => v = undef
  | 13 => v = undef
  | 14 => v = undef
  | 15 => v = undef
  | 16 => v = undef
  | 17 => v = undef
  | 18 => v = undef
  | 19 => v = undef
  | 20 => v = undef
  | 21 => v = undef
  | 22 => v = .bool true
  | _ => True
def caAOk (A : Option Addr) (nn cc b off np cp kk : Nat) (x : Int) (Q : Exit → Act → World → Prop) (a : Act) (W : World) (ix : Nat) (o : Oper) : Prop :=
  ((∀ j b, o.guard = some (j, b) → a.eval (.tmp (caD j)) = .bool b) ∧ o.wp Tryz.prog a W (fun a'' W' => ∃ v, a'' = a.put o.dst v ∧ caAS A nn cc b off np cp kk x ix v W' ∧ Below W.heap.size W W') Q) ∨ ((∃ j b, o.guard = some (j, b) ∧ a.eval (.tmp (caD j)) ≠ .bool b) ∧ caAS A nn cc b off np cp kk x ix undef W)
section
variable {A : Option Addr} {nn cc b off np cp kk : Nat} {x : Int} {Q : Exit → Act → World → Prop} {a : Act} {V W : World} {o : Oper}
set_option maxHeartbeats 1000000 in
theorem caA_op0 (o0 : a.eval (.tmp 0) = .slice A nn cc) (ho : caReg[0]? = some o) : caAOk A nn cc b off np cp kk x Q a W 0 o := by
  have hop := op_at ho (·.op) (x := Op.move (Operand.tmp 0)) (by kernel_rfl)
  have hgd := op_at ho (·.guard) (x := none) (by kernel_rfl)
  refine .inl ⟨fun j b h => (by rw [hgd] at h; cases h), ?_⟩
  exact specs_value (R := fun v W => caAS A nn cc b off np cp kk x 0 v W) (v := .slice A nn cc) (by simp [execOp, hop, go_sem, ev o0]) rfl (Ext.refl W)
set_option maxHeartbeats 1000000 in
theorem caA_op1 (o1 : a.eval (.tmp 1) = .slice (some ⟨b, off, none⟩) np cp) (ho : caReg[1]? = some o) : caAOk A nn cc b off np cp kk x Q a W 1 o := by
  have hop := op_at ho (·.op) (x := Op.move (Operand.tmp 1)) (by kernel_rfl)
  have hgd := op_at ho (·.guard) (x := none) (by kernel_rfl)
  refine .inl ⟨fun j b h => (by rw [hgd] at h; cases h), ?_⟩
  exact specs_value (R := fun v W => caAS A nn cc b off np cp kk x 1 v W) (v := .slice (some ⟨b, off, none⟩) np cp) (by simp [execOp, hop, go_sem, ev o1]) rfl (Ext.refl W)
set_option maxHeartbeats 1000000 in
theorem caA_op2 (o5 : a.eval (.tmp 5) = .int .i64 (kk : Int)) (ho : caReg[2]? = some o) : caAOk A nn cc b off np cp kk x Q a W 2 o := by
  have hop := op_at ho (·.op) (x := Op.move (Operand.tmp 5)) (by kernel_rfl)
  have hgd := op_at ho (·.guard) (x := none) (by kernel_rfl)
  refine .inl ⟨fun j b h => (by rw [hgd] at h; cases h), ?_⟩
  exact specs_value (R := fun v W => caAS A nn cc b off np cp kk x 2 v W) (v := .int .i64 (kk : Int)) (by simp [execOp, hop, go_sem, ev o5]) rfl (Ext.refl W)
set_option maxHeartbeats 1000000 in
theorem caA_op3 (hlp : (kk : Int) < (np : Int)) (haft : ∀ j, (o.after.any fun e => decide (e.on = j) && Region.binds .any e) = true → caAS A nn cc b off np cp kk x j (a.eval (.tmp (caD j))) W) (ho : caReg[3]? = some o) : caAOk A nn cc b off np cp kk x Q a W 3 o := by
  have hop := op_at ho (·.op) (x := Op.indexAddr 30 (Operand.tmp 23) (Operand.tmp 24)) (by kernel_rfl)
  have hgd := op_at ho (·.guard) (x := none) (by kernel_rfl)
  have e1 : a.eval (.tmp 23) = .slice (some ⟨b, off, none⟩) np cp := haft 1 (op_at ho (fun o => o.after.any fun e => decide (e.on = 1) && Region.binds .any e) (x := true) (by kernel_rfl))
  have e2 : a.eval (.tmp 24) = .int .i64 (kk : Int) := haft 2 (op_at ho (fun o => o.after.any fun e => decide (e.on = 2) && Region.binds .any e) (x := true) (by kernel_rfl))
  refine .inl ⟨fun j b h => (by rw [hgd] at h; cases h), ?_⟩
  exact specs_value (R := fun v W => caAS A nn cc b off np cp kk x 3 v W) (v := .pointer (some ⟨b, off + kk, none⟩)) (by simp [execOp, hop, go_sem, ev e1, ev e2, hlp]) rfl (Ext.refl W)
set_option maxHeartbeats 1000000 in
theorem caA_op4 (cx : ∀ W, Ext V W → W.cell? ⟨b, off + kk, none⟩ = some (.int .i64 x)) (hB : Ext V W) (haft : ∀ j, (o.after.any fun e => decide (e.on = j) && Region.binds .any e) = true → caAS A nn cc b off np cp kk x j (a.eval (.tmp (caD j))) W) (ho : caReg[4]? = some o) : caAOk A nn cc b off np cp kk x Q a W 4 o := by
  have hop := op_at ho (·.op) (x := Op.load 3 (Operand.tmp 25)) (by kernel_rfl)
  have hgd := op_at ho (·.guard) (x := none) (by kernel_rfl)
  have e3 : a.eval (.tmp 25) = .pointer (some ⟨b, off + kk, none⟩) := haft 3 (op_at ho (fun o => o.after.any fun e => decide (e.on = 3) && Region.binds .any e) (x := true) (by kernel_rfl))
  refine .inl ⟨fun j b h => (by rw [hgd] at h; cases h), ?_⟩
  have cx' := cx W hB
  exact specs_value (R := fun v W => caAS A nn cc b off np cp kk x 4 v W) (v := .int .i64 x) (by simp [execOp, hop, go_sem, ev e3, cx']) rfl (Ext.refl W)
set_option maxHeartbeats 1000000 in
theorem caA_op5 (k1 : ∀ W, Ext V W → Calls Tryz.prog 55 #[.slice A nn cc, .int .i64 x] W fun e w' => e = .returned (.bool false) ∧ Ext W w') (hB : Ext V W) (haft : ∀ j, (o.after.any fun e => decide (e.on = j) && Region.binds .any e) = true → caAS A nn cc b off np cp kk x j (a.eval (.tmp (caD j))) W) (ho : caReg[5]? = some o) : caAOk A nn cc b off np cp kk x Q a W 5 o := by
  have hop := op_at ho (·.op) (x := Op.call { callee := Callee.value (Operand.func 55), args := #[Operand.tmp 22, Operand.tmp 26], argTypes := #[22, 3] }) (by kernel_rfl)
  have hgd := op_at ho (·.guard) (x := none) (by kernel_rfl)
  have e0 : a.eval (.tmp 22) = .slice A nn cc := haft 0 (op_at ho (fun o => o.after.any fun e => decide (e.on = 0) && Region.binds .any e) (x := true) (by kernel_rfl))
  have e4 : a.eval (.tmp 26) = .int .i64 x := haft 4 (op_at ho (fun o => o.after.any fun e => decide (e.on = 4) && Region.binds .any e) (x := true) (by kernel_rfl))
  refine .inl ⟨fun j b h => (by rw [hgd] at h; cases h), ?_⟩
  refine specs_call (R := fun v W => caAS A nn cc b off np cp kk x 5 v W) (f := 55) (args := #[.slice A nn cc, .int .i64 x]) (by simp [execOp, hop, go_sem, ev e0, ev e4]) ((k1 W hB).mono ?_)
  rintro e w' ⟨rfl, h3⟩
  exact ⟨_, rfl, rfl, h3⟩
set_option maxHeartbeats 1000000 in
theorem caA_op6 (haft : ∀ j, (o.after.any fun e => decide (e.on = j) && Region.binds .any e) = true → caAS A nn cc b off np cp kk x j (a.eval (.tmp (caD j))) W) (ho : caReg[6]? = some o) : caAOk A nn cc b off np cp kk x Q a W 6 o := by
  have hop := op_at ho (·.op) (x := Op.unOp UnOp.not 4 (Operand.tmp 27)) (by kernel_rfl)
  have hgd := op_at ho (·.guard) (x := none) (by kernel_rfl)
  have e5 : a.eval (.tmp 27) = .bool false := haft 5 (op_at ho (fun o => o.after.any fun e => decide (e.on = 5) && Region.binds .any e) (x := true) (by kernel_rfl))
  refine .inl ⟨fun j b h => (by rw [hgd] at h; cases h), ?_⟩
  exact specs_value (R := fun v W => caAS A nn cc b off np cp kk x 6 v W) (v := .bool true) (by simp [execOp, hop, go_sem, ev e5]) rfl (Ext.refl W)
set_option maxHeartbeats 1000000 in
theorem caA_op7 (haft : ∀ j, (o.after.any fun e => decide (e.on = j) && Region.binds .any e) = true → caAS A nn cc b off np cp kk x j (a.eval (.tmp (caD j))) W) (ho : caReg[7]? = some o) : caAOk A nn cc b off np cp kk x Q a W 7 o := by
  have hop := op_at ho (·.op) (x := Op.move (Operand.tmp 28)) (by kernel_rfl)
  have hgd := op_at ho (·.guard) (x := none) (by kernel_rfl)
  have e6 : a.eval (.tmp 28) = .bool true := haft 6 (op_at ho (fun o => o.after.any fun e => decide (e.on = 6) && Region.binds .any e) (x := true) (by kernel_rfl))
  refine .inl ⟨fun j b h => (by rw [hgd] at h; cases h), ?_⟩
  exact specs_value (R := fun v W => caAS A nn cc b off np cp kk x 7 v W) (v := .bool true) (by simp [execOp, hop, go_sem, ev e6]) rfl (Ext.refl W)
set_option maxHeartbeats 1000000 in
theorem caA_op8 (haft : ∀ j, (o.after.any fun e => decide (e.on = j) && Region.binds .any e) = true → caAS A nn cc b off np cp kk x j (a.eval (.tmp (caD j))) W) (ho : caReg[8]? = some o) : caAOk A nn cc b off np cp kk x Q a W 8 o := by
  have hgd := op_at ho (·.guard) (x := some (7, false)) (by kernel_rfl)
  have e7 : a.eval (.tmp 29) = .bool true := haft 7 (op_at ho (fun o => o.after.any fun e => decide (e.on = 7) && Region.binds .any e) (x := true) (by kernel_rfl))
  exact .inr ⟨⟨7, false, hgd, fun h => by
    have h2 := e7.symm.trans (show a.eval (.tmp 29) = .bool false from h)
    simp at h2⟩, rfl⟩
set_option maxHeartbeats 1000000 in
theorem caA_op9 (haft : ∀ j, (o.after.any fun e => decide (e.on = j) && Region.binds .any e) = true → caAS A nn cc b off np cp kk x j (a.eval (.tmp (caD j))) W) (ho : caReg[9]? = some o) : caAOk A nn cc b off np cp kk x Q a W 9 o := by
  have hgd := op_at ho (·.guard) (x := some (7, false)) (by kernel_rfl)
  have e7 : a.eval (.tmp 29) = .bool true := haft 7 (op_at ho (fun o => o.after.any fun e => decide (e.on = 7) && Region.binds .any e) (x := true) (by kernel_rfl))
  exact .inr ⟨⟨7, false, hgd, fun h => by
    have h2 := e7.symm.trans (show a.eval (.tmp 29) = .bool false from h)
    simp at h2⟩, rfl⟩
set_option maxHeartbeats 1000000 in
theorem caA_op10 (haft : ∀ j, (o.after.any fun e => decide (e.on = j) && Region.binds .any e) = true → caAS A nn cc b off np cp kk x j (a.eval (.tmp (caD j))) W) (ho : caReg[10]? = some o) : caAOk A nn cc b off np cp kk x Q a W 10 o := by
  have hgd := op_at ho (·.guard) (x := some (7, false)) (by kernel_rfl)
  have e7 : a.eval (.tmp 29) = .bool true := haft 7 (op_at ho (fun o => o.after.any fun e => decide (e.on = 7) && Region.binds .any e) (x := true) (by kernel_rfl))
  exact .inr ⟨⟨7, false, hgd, fun h => by
    have h2 := e7.symm.trans (show a.eval (.tmp 29) = .bool false from h)
    simp at h2⟩, rfl⟩
set_option maxHeartbeats 1000000 in
theorem caA_op11 (haft : ∀ j, (o.after.any fun e => decide (e.on = j) && Region.binds .any e) = true → caAS A nn cc b off np cp kk x j (a.eval (.tmp (caD j))) W) (ho : caReg[11]? = some o) : caAOk A nn cc b off np cp kk x Q a W 11 o := by
  have hgd := op_at ho (·.guard) (x := some (10, true)) (by kernel_rfl)
  have e10 : a.eval (.tmp 32) = undef := haft 10 (op_at ho (fun o => o.after.any fun e => decide (e.on = 10) && Region.binds .any e) (x := true) (by kernel_rfl))
  exact .inr ⟨⟨10, true, hgd, fun h => by
    have h2 := e10.symm.trans (show a.eval (.tmp 32) = .bool true from h)
    simp [undef] at h2⟩, rfl⟩
set_option maxHeartbeats 1000000 in
theorem caA_op12 (haft : ∀ j, (o.after.any fun e => decide (e.on = j) && Region.binds .any e) = true → caAS A nn cc b off np cp kk x j (a.eval (.tmp (caD j))) W) (ho : caReg[12]? = some o) : caAOk A nn cc b off np cp kk x Q a W 12 o := by
  have hgd := op_at ho (·.guard) (x := some (10, true)) (by kernel_rfl)
  have e10 : a.eval (.tmp 32) = undef := haft 10 (op_at ho (fun o => o.after.any fun e => decide (e.on = 10) && Region.binds .any e) (x := true) (by kernel_rfl))
  exact .inr ⟨⟨10, true, hgd, fun h => by
    have h2 := e10.symm.trans (show a.eval (.tmp 32) = .bool true from h)
    simp [undef] at h2⟩, rfl⟩
set_option maxHeartbeats 1000000 in
theorem caA_op13 (haft : ∀ j, (o.after.any fun e => decide (e.on = j) && Region.binds .any e) = true → caAS A nn cc b off np cp kk x j (a.eval (.tmp (caD j))) W) (ho : caReg[13]? = some o) : caAOk A nn cc b off np cp kk x Q a W 13 o := by
  have hgd := op_at ho (·.guard) (x := some (10, true)) (by kernel_rfl)
  have e10 : a.eval (.tmp 32) = undef := haft 10 (op_at ho (fun o => o.after.any fun e => decide (e.on = 10) && Region.binds .any e) (x := true) (by kernel_rfl))
  exact .inr ⟨⟨10, true, hgd, fun h => by
    have h2 := e10.symm.trans (show a.eval (.tmp 32) = .bool true from h)
    simp [undef] at h2⟩, rfl⟩
set_option maxHeartbeats 1000000 in
theorem caA_op14 (haft : ∀ j, (o.after.any fun e => decide (e.on = j) && Region.binds .any e) = true → caAS A nn cc b off np cp kk x j (a.eval (.tmp (caD j))) W) (ho : caReg[14]? = some o) : caAOk A nn cc b off np cp kk x Q a W 14 o := by
  have hgd := op_at ho (·.guard) (x := some (10, true)) (by kernel_rfl)
  have e10 : a.eval (.tmp 32) = undef := haft 10 (op_at ho (fun o => o.after.any fun e => decide (e.on = 10) && Region.binds .any e) (x := true) (by kernel_rfl))
  exact .inr ⟨⟨10, true, hgd, fun h => by
    have h2 := e10.symm.trans (show a.eval (.tmp 32) = .bool true from h)
    simp [undef] at h2⟩, rfl⟩
set_option maxHeartbeats 1000000 in
theorem caA_op15 (haft : ∀ j, (o.after.any fun e => decide (e.on = j) && Region.binds .any e) = true → caAS A nn cc b off np cp kk x j (a.eval (.tmp (caD j))) W) (ho : caReg[15]? = some o) : caAOk A nn cc b off np cp kk x Q a W 15 o := by
  have hgd := op_at ho (·.guard) (x := some (10, true)) (by kernel_rfl)
  have e10 : a.eval (.tmp 32) = undef := haft 10 (op_at ho (fun o => o.after.any fun e => decide (e.on = 10) && Region.binds .any e) (x := true) (by kernel_rfl))
  exact .inr ⟨⟨10, true, hgd, fun h => by
    have h2 := e10.symm.trans (show a.eval (.tmp 32) = .bool true from h)
    simp [undef] at h2⟩, rfl⟩
set_option maxHeartbeats 1000000 in
theorem caA_op16 (haft : ∀ j, (o.after.any fun e => decide (e.on = j) && Region.binds .any e) = true → caAS A nn cc b off np cp kk x j (a.eval (.tmp (caD j))) W) (ho : caReg[16]? = some o) : caAOk A nn cc b off np cp kk x Q a W 16 o := by
  have hgd := op_at ho (·.guard) (x := some (10, true)) (by kernel_rfl)
  have e10 : a.eval (.tmp 32) = undef := haft 10 (op_at ho (fun o => o.after.any fun e => decide (e.on = 10) && Region.binds .any e) (x := true) (by kernel_rfl))
  exact .inr ⟨⟨10, true, hgd, fun h => by
    have h2 := e10.symm.trans (show a.eval (.tmp 32) = .bool true from h)
    simp [undef] at h2⟩, rfl⟩
set_option maxHeartbeats 1000000 in
theorem caA_op17 (haft : ∀ j, (o.after.any fun e => decide (e.on = j) && Region.binds .any e) = true → caAS A nn cc b off np cp kk x j (a.eval (.tmp (caD j))) W) (ho : caReg[17]? = some o) : caAOk A nn cc b off np cp kk x Q a W 17 o := by
  have hgd := op_at ho (·.guard) (x := some (10, true)) (by kernel_rfl)
  have e10 : a.eval (.tmp 32) = undef := haft 10 (op_at ho (fun o => o.after.any fun e => decide (e.on = 10) && Region.binds .any e) (x := true) (by kernel_rfl))
  exact .inr ⟨⟨10, true, hgd, fun h => by
    have h2 := e10.symm.trans (show a.eval (.tmp 32) = .bool true from h)
    simp [undef] at h2⟩, rfl⟩
set_option maxHeartbeats 1000000 in
theorem caA_op18 (haft : ∀ j, (o.after.any fun e => decide (e.on = j) && Region.binds .any e) = true → caAS A nn cc b off np cp kk x j (a.eval (.tmp (caD j))) W) (ho : caReg[18]? = some o) : caAOk A nn cc b off np cp kk x Q a W 18 o := by
  have hgd := op_at ho (·.guard) (x := some (10, true)) (by kernel_rfl)
  have e10 : a.eval (.tmp 32) = undef := haft 10 (op_at ho (fun o => o.after.any fun e => decide (e.on = 10) && Region.binds .any e) (x := true) (by kernel_rfl))
  exact .inr ⟨⟨10, true, hgd, fun h => by
    have h2 := e10.symm.trans (show a.eval (.tmp 32) = .bool true from h)
    simp [undef] at h2⟩, rfl⟩
set_option maxHeartbeats 1000000 in
theorem caA_op19 (haft : ∀ j, (o.after.any fun e => decide (e.on = j) && Region.binds .any e) = true → caAS A nn cc b off np cp kk x j (a.eval (.tmp (caD j))) W) (ho : caReg[19]? = some o) : caAOk A nn cc b off np cp kk x Q a W 19 o := by
  have hgd := op_at ho (·.guard) (x := some (10, true)) (by kernel_rfl)
  have e10 : a.eval (.tmp 32) = undef := haft 10 (op_at ho (fun o => o.after.any fun e => decide (e.on = 10) && Region.binds .any e) (x := true) (by kernel_rfl))
  exact .inr ⟨⟨10, true, hgd, fun h => by
    have h2 := e10.symm.trans (show a.eval (.tmp 32) = .bool true from h)
    simp [undef] at h2⟩, rfl⟩
set_option maxHeartbeats 1000000 in
theorem caA_op20 (haft : ∀ j, (o.after.any fun e => decide (e.on = j) && Region.binds .any e) = true → caAS A nn cc b off np cp kk x j (a.eval (.tmp (caD j))) W) (ho : caReg[20]? = some o) : caAOk A nn cc b off np cp kk x Q a W 20 o := by
  have hgd := op_at ho (·.guard) (x := some (10, true)) (by kernel_rfl)
  have e10 : a.eval (.tmp 32) = undef := haft 10 (op_at ho (fun o => o.after.any fun e => decide (e.on = 10) && Region.binds .any e) (x := true) (by kernel_rfl))
  exact .inr ⟨⟨10, true, hgd, fun h => by
    have h2 := e10.symm.trans (show a.eval (.tmp 32) = .bool true from h)
    simp [undef] at h2⟩, rfl⟩
set_option maxHeartbeats 1000000 in
theorem caA_op21 (haft : ∀ j, (o.after.any fun e => decide (e.on = j) && Region.binds .any e) = true → caAS A nn cc b off np cp kk x j (a.eval (.tmp (caD j))) W) (ho : caReg[21]? = some o) : caAOk A nn cc b off np cp kk x Q a W 21 o := by
  have hgd := op_at ho (·.guard) (x := some (7, false)) (by kernel_rfl)
  have e7 : a.eval (.tmp 29) = .bool true := haft 7 (op_at ho (fun o => o.after.any fun e => decide (e.on = 7) && Region.binds .any e) (x := true) (by kernel_rfl))
  exact .inr ⟨⟨7, false, hgd, fun h => by
    have h2 := e7.symm.trans (show a.eval (.tmp 29) = .bool false from h)
    simp at h2⟩, rfl⟩
set_option maxHeartbeats 1000000 in
theorem caA_op22 (haft : ∀ j, (o.after.any fun e => decide (e.on = j) && Region.binds .any e) = true → caAS A nn cc b off np cp kk x j (a.eval (.tmp (caD j))) W) (ho : caReg[22]? = some o) : caAOk A nn cc b off np cp kk x Q a W 22 o := by
  have hop := op_at ho (·.op) (x := Op.pick (Operand.tmp 29) (Operand.const (Value.bool true)) (Operand.tmp 43)) (by kernel_rfl)
  have hgd := op_at ho (·.guard) (x := none) (by kernel_rfl)
  have e7 : a.eval (.tmp 29) = .bool true := haft 7 (op_at ho (fun o => o.after.any fun e => decide (e.on = 7) && Region.binds .any e) (x := true) (by kernel_rfl))
  refine .inl ⟨fun j b h => (by rw [hgd] at h; cases h), ?_⟩
  exact specs_value (R := fun v W => caAS A nn cc b off np cp kk x 22 v W) (v := .bool true) (by simp [execOp, hop, go_sem, ev e7]) rfl (Ext.refl W)
set_option maxRecDepth 100000 in
set_option maxHeartbeats 4000000 in
/-- Region 6 of function 34, one way through it. -/
theorem caA_wp {id : Nat} (hlen : a.tmps.size = 100) (o0 : a.eval (.tmp 0) = .slice A nn cc) (o1 : a.eval (.tmp 1) = .slice (some ⟨b, off, none⟩) np cp) (o5 : a.eval (.tmp 5) = .int .i64 (kk : Int)) (hlp : (kk : Int) < (np : Int)) (cx : ∀ W, Ext V W → W.cell? ⟨b, off + kk, none⟩ = some (.int .i64 x)) (k1 : ∀ W, Ext V W → Calls Tryz.prog 55 #[.slice A nn cc, .int .i64 x] W fun e w' => e = .returned (.bool false) ∧ Ext W w') (K : ∀ W, Ext V W → Q .normal (puts a [(22, .slice A nn cc), (23, .slice (some ⟨b, off, none⟩) np cp), (24, .int .i64 (kk : Int)), (25, .pointer (some ⟨b, off + kk, none⟩)), (26, .int .i64 x), (27, .bool false), (28, .bool true), (29, .bool true), (30, undef), (31, undef), (32, undef), (33, undef), (34, undef), (35, undef), (36, undef), (37, undef), (38, undef), (39, undef), (40, undef), (41, undef), (42, undef), (43, undef), (44, .bool true)]) W) : (Code.region id caReg true).wp Tryz.prog Q a V := by
  refine wp_region_maybe (ops := caReg) (caAS A nn cc b off np cp kk x) (Ext V) (by kernel_rfl) (by rw [hlen]; kernel_rfl) ⟨rfl, rfl, rfl, Nat.le_refl _, fun _ _ => rfl⟩ (fun _ _ h e => h.trans e) (fun _ _ _ _ h _ => h) caD (by kernel_rfl) ?_ ?_
  · intro i o ho a' W hB hsz hold haft
    have hi : i < 23 := by
      have h1 := (Array.getElem?_eq_some_iff.1 ho).1
      have h2 := ca_size
      omega
    match i, hi with
    | 0, _ => exact caA_op0 ((hold 0 (by kernel_rfl)).trans o0) ho
    | 1, _ => exact caA_op1 ((hold 1 (by kernel_rfl)).trans o1) ho
    | 2, _ => exact caA_op2 ((hold 5 (by kernel_rfl)).trans o5) ho
    | 3, _ => exact caA_op3 hlp haft ho
    | 4, _ => exact caA_op4 cx hB haft ho
    | 5, _ => exact caA_op5 k1 hB haft ho
    | 6, _ => exact caA_op6 haft ho
    | 7, _ => exact caA_op7 haft ho
    | 8, _ => exact caA_op8 haft ho
    | 9, _ => exact caA_op9 haft ho
    | 10, _ => exact caA_op10 haft ho
    | 11, _ => exact caA_op11 haft ho
    | 12, _ => exact caA_op12 haft ho
    | 13, _ => exact caA_op13 haft ho
    | 14, _ => exact caA_op14 haft ho
    | 15, _ => exact caA_op15 haft ho
    | 16, _ => exact caA_op16 haft ho
    | 17, _ => exact caA_op17 haft ho
    | 18, _ => exact caA_op18 haft ho
    | 19, _ => exact caA_op19 haft ho
    | 20, _ => exact caA_op20 haft ho
    | 21, _ => exact caA_op21 haft ho
    | 22, _ => exact caA_op22 haft ho
    | m + 23, h => exact absurd h (by omega)
  · intro a1 W hB hsz hdf hold hS
    have hs2 := ca_size
    have hall : ∀ zz, zz ∈ ([(22, .slice A nn cc), (23, .slice (some ⟨b, off, none⟩) np cp), (24, .int .i64 (kk : Int)), (25, .pointer (some ⟨b, off + kk, none⟩)), (26, .int .i64 x), (27, .bool false), (28, .bool true), (29, .bool true), (30, undef), (31, undef), (32, undef), (33, undef), (34, undef), (35, undef), (36, undef), (37, undef), (38, undef), (39, undef), (40, undef), (41, undef), (42, undef), (43, undef), (44, .bool true)] : List (Tmp × Value)) → zz.1 < a.tmps.size ∧ a1.eval (.tmp zz.1) = zz.2 := by
      intro zz hz
      rw [hlen]
      simp only [List.mem_cons, List.not_mem_nil, or_false] at hz
      rcases hz with rfl | rfl | rfl | rfl | rfl | rfl | rfl | rfl | rfl | rfl | rfl | rfl | rfl | rfl | rfl | rfl | rfl | rfl | rfl | rfl | rfl | rfl | rfl
      · exact ⟨(show (22 : Nat) < 100 by omega), hS 0 (by omega)⟩
      · exact ⟨(show (23 : Nat) < 100 by omega), hS 1 (by omega)⟩
      · exact ⟨(show (24 : Nat) < 100 by omega), hS 2 (by omega)⟩
      · exact ⟨(show (25 : Nat) < 100 by omega), hS 3 (by omega)⟩
      · exact ⟨(show (26 : Nat) < 100 by omega), hS 4 (by omega)⟩
      · exact ⟨(show (27 : Nat) < 100 by omega), hS 5 (by omega)⟩
      · exact ⟨(show (28 : Nat) < 100 by omega), hS 6 (by omega)⟩
      · exact ⟨(show (29 : Nat) < 100 by omega), hS 7 (by omega)⟩
      · exact ⟨(show (30 : Nat) < 100 by omega), hS 8 (by omega)⟩
      · exact ⟨(show (31 : Nat) < 100 by omega), hS 9 (by omega)⟩
      · exact ⟨(show (32 : Nat) < 100 by omega), hS 10 (by omega)⟩
      · exact ⟨(show (33 : Nat) < 100 by omega), hS 11 (by omega)⟩
      · exact ⟨(show (34 : Nat) < 100 by omega), hS 12 (by omega)⟩
      · exact ⟨(show (35 : Nat) < 100 by omega), hS 13 (by omega)⟩
      · exact ⟨(show (36 : Nat) < 100 by omega), hS 14 (by omega)⟩
      · exact ⟨(show (37 : Nat) < 100 by omega), hS 15 (by omega)⟩
      · exact ⟨(show (38 : Nat) < 100 by omega), hS 16 (by omega)⟩
      · exact ⟨(show (39 : Nat) < 100 by omega), hS 17 (by omega)⟩
      · exact ⟨(show (40 : Nat) < 100 by omega), hS 18 (by omega)⟩
      · exact ⟨(show (41 : Nat) < 100 by omega), hS 19 (by omega)⟩
      · exact ⟨(show (42 : Nat) < 100 by omega), hS 20 (by omega)⟩
      · exact ⟨(show (43 : Nat) < 100 by omega), hS 21 (by omega)⟩
      · exact ⟨(show (44 : Nat) < 100 by omega), hS 22 (by omega)⟩
    have ha := act_puts hsz hdf hall (fun t ht => hold t (by rw [hs2]; exact all_ne_of (l := [(22, .slice A nn cc), (23, .slice (some ⟨b, off, none⟩) np cp), (24, .int .i64 (kk : Int)), (25, .pointer (some ⟨b, off + kk, none⟩)), (26, .int .i64 x), (27, .bool false), (28, .bool true), (29, .bool true), (30, undef), (31, undef), (32, undef), (33, undef), (34, undef), (35, undef), (36, undef), (37, undef), (38, undef), (39, undef), (40, undef), (41, undef), (42, undef), (43, undef), (44, .bool true)]) (by kernel_rfl) ht))
    rw [ha]
    exact K W hB
end
/-- What each operation yields. -/
def caBS (A : Option Addr) (nn cc b off np cp kk : Nat) (x : Int) (ix : Nat) (v : Value) (_ : World) : Prop :=
  match ix with
  | 0 => v = .slice A nn cc
  | 1 => v = .slice (some ⟨b, off, none⟩) np cp
  | 2 => v = .int .i64 (kk : Int)
  | 3 => v = .pointer (some ⟨b, off + kk, none⟩)
  | 4 => v = .int .i64 x
  | 5 => v = .bool true
  | 6 => v = .bool false
  | 7 => v = .bool false
  | 8 => v = .int .i64 (kk : Int)
  | 9 => v = .bool false
  | 10 => v = .bool false
  | 11 => v = undef
  | 12 => v = undef
  | 13 => v = undef
  | 14 => v = undef
  | 15 => v = undef
  | 16 => v = undef
  | 17 => v = undef
  | 18 => v = undef
  | 19 => v = undef
  | 20 => v = undef
  | 21 => v = .bool false
  | 22 => v = .bool false
  | _ => True
def caBOk (A : Option Addr) (nn cc b off np cp kk : Nat) (x : Int) (Q : Exit → Act → World → Prop) (a : Act) (W : World) (ix : Nat) (o : Oper) : Prop :=
  ((∀ j b, o.guard = some (j, b) → a.eval (.tmp (caD j)) = .bool b) ∧ o.wp Tryz.prog a W (fun a'' W' => ∃ v, a'' = a.put o.dst v ∧ caBS A nn cc b off np cp kk x ix v W' ∧ Below W.heap.size W W') Q) ∨ ((∃ j b, o.guard = some (j, b) ∧ a.eval (.tmp (caD j)) ≠ .bool b) ∧ caBS A nn cc b off np cp kk x ix undef W)
section
variable {A : Option Addr} {nn cc b off np cp kk : Nat} {x : Int} {Q : Exit → Act → World → Prop} {a : Act} {V W : World} {o : Oper}
set_option maxHeartbeats 1000000 in
theorem caB_op0 (o0 : a.eval (.tmp 0) = .slice A nn cc) (ho : caReg[0]? = some o) : caBOk A nn cc b off np cp kk x Q a W 0 o := by
  have hop := op_at ho (·.op) (x := Op.move (Operand.tmp 0)) (by kernel_rfl)
  have hgd := op_at ho (·.guard) (x := none) (by kernel_rfl)
  refine .inl ⟨fun j b h => (by rw [hgd] at h; cases h), ?_⟩
  exact specs_value (R := fun v W => caBS A nn cc b off np cp kk x 0 v W) (v := .slice A nn cc) (by simp [execOp, hop, go_sem, ev o0]) rfl (Ext.refl W)
set_option maxHeartbeats 1000000 in
theorem caB_op1 (o1 : a.eval (.tmp 1) = .slice (some ⟨b, off, none⟩) np cp) (ho : caReg[1]? = some o) : caBOk A nn cc b off np cp kk x Q a W 1 o := by
  have hop := op_at ho (·.op) (x := Op.move (Operand.tmp 1)) (by kernel_rfl)
  have hgd := op_at ho (·.guard) (x := none) (by kernel_rfl)
  refine .inl ⟨fun j b h => (by rw [hgd] at h; cases h), ?_⟩
  exact specs_value (R := fun v W => caBS A nn cc b off np cp kk x 1 v W) (v := .slice (some ⟨b, off, none⟩) np cp) (by simp [execOp, hop, go_sem, ev o1]) rfl (Ext.refl W)
set_option maxHeartbeats 1000000 in
theorem caB_op2 (o5 : a.eval (.tmp 5) = .int .i64 (kk : Int)) (ho : caReg[2]? = some o) : caBOk A nn cc b off np cp kk x Q a W 2 o := by
  have hop := op_at ho (·.op) (x := Op.move (Operand.tmp 5)) (by kernel_rfl)
  have hgd := op_at ho (·.guard) (x := none) (by kernel_rfl)
  refine .inl ⟨fun j b h => (by rw [hgd] at h; cases h), ?_⟩
  exact specs_value (R := fun v W => caBS A nn cc b off np cp kk x 2 v W) (v := .int .i64 (kk : Int)) (by simp [execOp, hop, go_sem, ev o5]) rfl (Ext.refl W)
set_option maxHeartbeats 1000000 in
theorem caB_op3 (hlp : (kk : Int) < (np : Int)) (haft : ∀ j, (o.after.any fun e => decide (e.on = j) && Region.binds .any e) = true → caBS A nn cc b off np cp kk x j (a.eval (.tmp (caD j))) W) (ho : caReg[3]? = some o) : caBOk A nn cc b off np cp kk x Q a W 3 o := by
  have hop := op_at ho (·.op) (x := Op.indexAddr 30 (Operand.tmp 23) (Operand.tmp 24)) (by kernel_rfl)
  have hgd := op_at ho (·.guard) (x := none) (by kernel_rfl)
  have e1 : a.eval (.tmp 23) = .slice (some ⟨b, off, none⟩) np cp := haft 1 (op_at ho (fun o => o.after.any fun e => decide (e.on = 1) && Region.binds .any e) (x := true) (by kernel_rfl))
  have e2 : a.eval (.tmp 24) = .int .i64 (kk : Int) := haft 2 (op_at ho (fun o => o.after.any fun e => decide (e.on = 2) && Region.binds .any e) (x := true) (by kernel_rfl))
  refine .inl ⟨fun j b h => (by rw [hgd] at h; cases h), ?_⟩
  exact specs_value (R := fun v W => caBS A nn cc b off np cp kk x 3 v W) (v := .pointer (some ⟨b, off + kk, none⟩)) (by simp [execOp, hop, go_sem, ev e1, ev e2, hlp]) rfl (Ext.refl W)
set_option maxHeartbeats 1000000 in
theorem caB_op4 (cx : ∀ W, Ext V W → W.cell? ⟨b, off + kk, none⟩ = some (.int .i64 x)) (hB : Ext V W) (haft : ∀ j, (o.after.any fun e => decide (e.on = j) && Region.binds .any e) = true → caBS A nn cc b off np cp kk x j (a.eval (.tmp (caD j))) W) (ho : caReg[4]? = some o) : caBOk A nn cc b off np cp kk x Q a W 4 o := by
  have hop := op_at ho (·.op) (x := Op.load 3 (Operand.tmp 25)) (by kernel_rfl)
  have hgd := op_at ho (·.guard) (x := none) (by kernel_rfl)
  have e3 : a.eval (.tmp 25) = .pointer (some ⟨b, off + kk, none⟩) := haft 3 (op_at ho (fun o => o.after.any fun e => decide (e.on = 3) && Region.binds .any e) (x := true) (by kernel_rfl))
  refine .inl ⟨fun j b h => (by rw [hgd] at h; cases h), ?_⟩
  have cx' := cx W hB
  exact specs_value (R := fun v W => caBS A nn cc b off np cp kk x 4 v W) (v := .int .i64 x) (by simp [execOp, hop, go_sem, ev e3, cx']) rfl (Ext.refl W)
set_option maxHeartbeats 1000000 in
theorem caB_op5 (k1 : ∀ W, Ext V W → Calls Tryz.prog 55 #[.slice A nn cc, .int .i64 x] W fun e w' => e = .returned (.bool true) ∧ Ext W w') (hB : Ext V W) (haft : ∀ j, (o.after.any fun e => decide (e.on = j) && Region.binds .any e) = true → caBS A nn cc b off np cp kk x j (a.eval (.tmp (caD j))) W) (ho : caReg[5]? = some o) : caBOk A nn cc b off np cp kk x Q a W 5 o := by
  have hop := op_at ho (·.op) (x := Op.call { callee := Callee.value (Operand.func 55), args := #[Operand.tmp 22, Operand.tmp 26], argTypes := #[22, 3] }) (by kernel_rfl)
  have hgd := op_at ho (·.guard) (x := none) (by kernel_rfl)
  have e0 : a.eval (.tmp 22) = .slice A nn cc := haft 0 (op_at ho (fun o => o.after.any fun e => decide (e.on = 0) && Region.binds .any e) (x := true) (by kernel_rfl))
  have e4 : a.eval (.tmp 26) = .int .i64 x := haft 4 (op_at ho (fun o => o.after.any fun e => decide (e.on = 4) && Region.binds .any e) (x := true) (by kernel_rfl))
  refine .inl ⟨fun j b h => (by rw [hgd] at h; cases h), ?_⟩
  refine specs_call (R := fun v W => caBS A nn cc b off np cp kk x 5 v W) (f := 55) (args := #[.slice A nn cc, .int .i64 x]) (by simp [execOp, hop, go_sem, ev e0, ev e4]) ((k1 W hB).mono ?_)
  rintro e w' ⟨rfl, h3⟩
  exact ⟨_, rfl, rfl, h3⟩
set_option maxHeartbeats 1000000 in
theorem caB_op6 (haft : ∀ j, (o.after.any fun e => decide (e.on = j) && Region.binds .any e) = true → caBS A nn cc b off np cp kk x j (a.eval (.tmp (caD j))) W) (ho : caReg[6]? = some o) : caBOk A nn cc b off np cp kk x Q a W 6 o := by
  have hop := op_at ho (·.op) (x := Op.unOp UnOp.not 4 (Operand.tmp 27)) (by kernel_rfl)
  have hgd := op_at ho (·.guard) (x := none) (by kernel_rfl)
  have e5 : a.eval (.tmp 27) = .bool true := haft 5 (op_at ho (fun o => o.after.any fun e => decide (e.on = 5) && Region.binds .any e) (x := true) (by kernel_rfl))
  refine .inl ⟨fun j b h => (by rw [hgd] at h; cases h), ?_⟩
  exact specs_value (R := fun v W => caBS A nn cc b off np cp kk x 6 v W) (v := .bool false) (by simp [execOp, hop, go_sem, ev e5]) rfl (Ext.refl W)
set_option maxHeartbeats 1000000 in
theorem caB_op7 (haft : ∀ j, (o.after.any fun e => decide (e.on = j) && Region.binds .any e) = true → caBS A nn cc b off np cp kk x j (a.eval (.tmp (caD j))) W) (ho : caReg[7]? = some o) : caBOk A nn cc b off np cp kk x Q a W 7 o := by
  have hop := op_at ho (·.op) (x := Op.move (Operand.tmp 28)) (by kernel_rfl)
  have hgd := op_at ho (·.guard) (x := none) (by kernel_rfl)
  have e6 : a.eval (.tmp 28) = .bool false := haft 6 (op_at ho (fun o => o.after.any fun e => decide (e.on = 6) && Region.binds .any e) (x := true) (by kernel_rfl))
  refine .inl ⟨fun j b h => (by rw [hgd] at h; cases h), ?_⟩
  exact specs_value (R := fun v W => caBS A nn cc b off np cp kk x 7 v W) (v := .bool false) (by simp [execOp, hop, go_sem, ev e6]) rfl (Ext.refl W)
set_option maxHeartbeats 1000000 in
theorem caB_op8 (o5 : a.eval (.tmp 5) = .int .i64 (kk : Int)) (haft : ∀ j, (o.after.any fun e => decide (e.on = j) && Region.binds .any e) = true → caBS A nn cc b off np cp kk x j (a.eval (.tmp (caD j))) W) (ho : caReg[8]? = some o) : caBOk A nn cc b off np cp kk x Q a W 8 o := by
  have hop := op_at ho (·.op) (x := Op.move (Operand.tmp 5)) (by kernel_rfl)
  have hgd := op_at ho (·.guard) (x := some (7, false)) (by kernel_rfl)
  have e7 : a.eval (.tmp 29) = .bool false := haft 7 (op_at ho (fun o => o.after.any fun e => decide (e.on = 7) && Region.binds .any e) (x := true) (by kernel_rfl))
  refine .inl ⟨fun j b h => (by rw [hgd] at h; cases h; exact e7), ?_⟩
  exact specs_value (R := fun v W => caBS A nn cc b off np cp kk x 8 v W) (v := .int .i64 (kk : Int)) (by simp [execOp, hop, go_sem, ev o5]) rfl (Ext.refl W)
set_option maxHeartbeats 1000000 in
theorem caB_op9 (h3 : kk = 0) (haft : ∀ j, (o.after.any fun e => decide (e.on = j) && Region.binds .any e) = true → caBS A nn cc b off np cp kk x j (a.eval (.tmp (caD j))) W) (ho : caReg[9]? = some o) : caBOk A nn cc b off np cp kk x Q a W 9 o := by
  have hop := op_at ho (·.op) (x := Op.binOp BinOp.gtr 3 (Operand.tmp 30) (Operand.const (Value.int IntKind.i64 0)) 3) (by kernel_rfl)
  have hgd := op_at ho (·.guard) (x := some (7, false)) (by kernel_rfl)
  have e7 : a.eval (.tmp 29) = .bool false := haft 7 (op_at ho (fun o => o.after.any fun e => decide (e.on = 7) && Region.binds .any e) (x := true) (by kernel_rfl))
  have e8 : a.eval (.tmp 30) = .int .i64 (kk : Int) := haft 8 (op_at ho (fun o => o.after.any fun e => decide (e.on = 8) && Region.binds .any e) (x := true) (by kernel_rfl))
  refine .inl ⟨fun j b h => (by rw [hgd] at h; cases h; exact e7), ?_⟩
  exact specs_value (R := fun v W => caBS A nn cc b off np cp kk x 9 v W) (v := .bool false) (by simp [execOp, hop, go_sem, ev e8, h3]) rfl (Ext.refl W)
set_option maxHeartbeats 1000000 in
theorem caB_op10 (haft : ∀ j, (o.after.any fun e => decide (e.on = j) && Region.binds .any e) = true → caBS A nn cc b off np cp kk x j (a.eval (.tmp (caD j))) W) (ho : caReg[10]? = some o) : caBOk A nn cc b off np cp kk x Q a W 10 o := by
  have hop := op_at ho (·.op) (x := Op.move (Operand.tmp 31)) (by kernel_rfl)
  have hgd := op_at ho (·.guard) (x := some (7, false)) (by kernel_rfl)
  have e7 : a.eval (.tmp 29) = .bool false := haft 7 (op_at ho (fun o => o.after.any fun e => decide (e.on = 7) && Region.binds .any e) (x := true) (by kernel_rfl))
  have e9 : a.eval (.tmp 31) = .bool false := haft 9 (op_at ho (fun o => o.after.any fun e => decide (e.on = 9) && Region.binds .any e) (x := true) (by kernel_rfl))
  refine .inl ⟨fun j b h => (by rw [hgd] at h; cases h; exact e7), ?_⟩
  exact specs_value (R := fun v W => caBS A nn cc b off np cp kk x 10 v W) (v := .bool false) (by simp [execOp, hop, go_sem, ev e9]) rfl (Ext.refl W)
set_option maxHeartbeats 1000000 in
theorem caB_op11 (haft : ∀ j, (o.after.any fun e => decide (e.on = j) && Region.binds .any e) = true → caBS A nn cc b off np cp kk x j (a.eval (.tmp (caD j))) W) (ho : caReg[11]? = some o) : caBOk A nn cc b off np cp kk x Q a W 11 o := by
  have hgd := op_at ho (·.guard) (x := some (10, true)) (by kernel_rfl)
  have e10 : a.eval (.tmp 32) = .bool false := haft 10 (op_at ho (fun o => o.after.any fun e => decide (e.on = 10) && Region.binds .any e) (x := true) (by kernel_rfl))
  exact .inr ⟨⟨10, true, hgd, fun h => by
    have h2 := e10.symm.trans (show a.eval (.tmp 32) = .bool true from h)
    simp at h2⟩, rfl⟩
set_option maxHeartbeats 1000000 in
theorem caB_op12 (haft : ∀ j, (o.after.any fun e => decide (e.on = j) && Region.binds .any e) = true → caBS A nn cc b off np cp kk x j (a.eval (.tmp (caD j))) W) (ho : caReg[12]? = some o) : caBOk A nn cc b off np cp kk x Q a W 12 o := by
  have hgd := op_at ho (·.guard) (x := some (10, true)) (by kernel_rfl)
  have e10 : a.eval (.tmp 32) = .bool false := haft 10 (op_at ho (fun o => o.after.any fun e => decide (e.on = 10) && Region.binds .any e) (x := true) (by kernel_rfl))
  exact .inr ⟨⟨10, true, hgd, fun h => by
    have h2 := e10.symm.trans (show a.eval (.tmp 32) = .bool true from h)
    simp at h2⟩, rfl⟩
set_option maxHeartbeats 1000000 in
theorem caB_op13 (haft : ∀ j, (o.after.any fun e => decide (e.on = j) && Region.binds .any e) = true → caBS A nn cc b off np cp kk x j (a.eval (.tmp (caD j))) W) (ho : caReg[13]? = some o) : caBOk A nn cc b off np cp kk x Q a W 13 o := by
  have hgd := op_at ho (·.guard) (x := some (10, true)) (by kernel_rfl)
  have e10 : a.eval (.tmp 32) = .bool false := haft 10 (op_at ho (fun o => o.after.any fun e => decide (e.on = 10) && Region.binds .any e) (x := true) (by kernel_rfl))
  exact .inr ⟨⟨10, true, hgd, fun h => by
    have h2 := e10.symm.trans (show a.eval (.tmp 32) = .bool true from h)
    simp at h2⟩, rfl⟩
set_option maxHeartbeats 1000000 in
theorem caB_op14 (haft : ∀ j, (o.after.any fun e => decide (e.on = j) && Region.binds .any e) = true → caBS A nn cc b off np cp kk x j (a.eval (.tmp (caD j))) W) (ho : caReg[14]? = some o) : caBOk A nn cc b off np cp kk x Q a W 14 o := by
  have hgd := op_at ho (·.guard) (x := some (10, true)) (by kernel_rfl)
  have e10 : a.eval (.tmp 32) = .bool false := haft 10 (op_at ho (fun o => o.after.any fun e => decide (e.on = 10) && Region.binds .any e) (x := true) (by kernel_rfl))
  exact .inr ⟨⟨10, true, hgd, fun h => by
    have h2 := e10.symm.trans (show a.eval (.tmp 32) = .bool true from h)
    simp at h2⟩, rfl⟩
set_option maxHeartbeats 1000000 in
theorem caB_op15 (haft : ∀ j, (o.after.any fun e => decide (e.on = j) && Region.binds .any e) = true → caBS A nn cc b off np cp kk x j (a.eval (.tmp (caD j))) W) (ho : caReg[15]? = some o) : caBOk A nn cc b off np cp kk x Q a W 15 o := by
  have hgd := op_at ho (·.guard) (x := some (10, true)) (by kernel_rfl)
  have e10 : a.eval (.tmp 32) = .bool false := haft 10 (op_at ho (fun o => o.after.any fun e => decide (e.on = 10) && Region.binds .any e) (x := true) (by kernel_rfl))
  exact .inr ⟨⟨10, true, hgd, fun h => by
    have h2 := e10.symm.trans (show a.eval (.tmp 32) = .bool true from h)
    simp at h2⟩, rfl⟩
set_option maxHeartbeats 1000000 in
theorem caB_op16 (haft : ∀ j, (o.after.any fun e => decide (e.on = j) && Region.binds .any e) = true → caBS A nn cc b off np cp kk x j (a.eval (.tmp (caD j))) W) (ho : caReg[16]? = some o) : caBOk A nn cc b off np cp kk x Q a W 16 o := by
  have hgd := op_at ho (·.guard) (x := some (10, true)) (by kernel_rfl)
  have e10 : a.eval (.tmp 32) = .bool false := haft 10 (op_at ho (fun o => o.after.any fun e => decide (e.on = 10) && Region.binds .any e) (x := true) (by kernel_rfl))
  exact .inr ⟨⟨10, true, hgd, fun h => by
    have h2 := e10.symm.trans (show a.eval (.tmp 32) = .bool true from h)
    simp at h2⟩, rfl⟩
set_option maxHeartbeats 1000000 in
theorem caB_op17 (haft : ∀ j, (o.after.any fun e => decide (e.on = j) && Region.binds .any e) = true → caBS A nn cc b off np cp kk x j (a.eval (.tmp (caD j))) W) (ho : caReg[17]? = some o) : caBOk A nn cc b off np cp kk x Q a W 17 o := by
  have hgd := op_at ho (·.guard) (x := some (10, true)) (by kernel_rfl)
  have e10 : a.eval (.tmp 32) = .bool false := haft 10 (op_at ho (fun o => o.after.any fun e => decide (e.on = 10) && Region.binds .any e) (x := true) (by kernel_rfl))
  exact .inr ⟨⟨10, true, hgd, fun h => by
    have h2 := e10.symm.trans (show a.eval (.tmp 32) = .bool true from h)
    simp at h2⟩, rfl⟩
set_option maxHeartbeats 1000000 in
theorem caB_op18 (haft : ∀ j, (o.after.any fun e => decide (e.on = j) && Region.binds .any e) = true → caBS A nn cc b off np cp kk x j (a.eval (.tmp (caD j))) W) (ho : caReg[18]? = some o) : caBOk A nn cc b off np cp kk x Q a W 18 o := by
  have hgd := op_at ho (·.guard) (x := some (10, true)) (by kernel_rfl)
  have e10 : a.eval (.tmp 32) = .bool false := haft 10 (op_at ho (fun o => o.after.any fun e => decide (e.on = 10) && Region.binds .any e) (x := true) (by kernel_rfl))
  exact .inr ⟨⟨10, true, hgd, fun h => by
    have h2 := e10.symm.trans (show a.eval (.tmp 32) = .bool true from h)
    simp at h2⟩, rfl⟩
set_option maxHeartbeats 1000000 in
theorem caB_op19 (haft : ∀ j, (o.after.any fun e => decide (e.on = j) && Region.binds .any e) = true → caBS A nn cc b off np cp kk x j (a.eval (.tmp (caD j))) W) (ho : caReg[19]? = some o) : caBOk A nn cc b off np cp kk x Q a W 19 o := by
  have hgd := op_at ho (·.guard) (x := some (10, true)) (by kernel_rfl)
  have e10 : a.eval (.tmp 32) = .bool false := haft 10 (op_at ho (fun o => o.after.any fun e => decide (e.on = 10) && Region.binds .any e) (x := true) (by kernel_rfl))
  exact .inr ⟨⟨10, true, hgd, fun h => by
    have h2 := e10.symm.trans (show a.eval (.tmp 32) = .bool true from h)
    simp at h2⟩, rfl⟩
set_option maxHeartbeats 1000000 in
theorem caB_op20 (haft : ∀ j, (o.after.any fun e => decide (e.on = j) && Region.binds .any e) = true → caBS A nn cc b off np cp kk x j (a.eval (.tmp (caD j))) W) (ho : caReg[20]? = some o) : caBOk A nn cc b off np cp kk x Q a W 20 o := by
  have hgd := op_at ho (·.guard) (x := some (10, true)) (by kernel_rfl)
  have e10 : a.eval (.tmp 32) = .bool false := haft 10 (op_at ho (fun o => o.after.any fun e => decide (e.on = 10) && Region.binds .any e) (x := true) (by kernel_rfl))
  exact .inr ⟨⟨10, true, hgd, fun h => by
    have h2 := e10.symm.trans (show a.eval (.tmp 32) = .bool true from h)
    simp at h2⟩, rfl⟩
set_option maxHeartbeats 1000000 in
theorem caB_op21 (haft : ∀ j, (o.after.any fun e => decide (e.on = j) && Region.binds .any e) = true → caBS A nn cc b off np cp kk x j (a.eval (.tmp (caD j))) W) (ho : caReg[21]? = some o) : caBOk A nn cc b off np cp kk x Q a W 21 o := by
  have hop := op_at ho (·.op) (x := Op.pick (Operand.tmp 32) (Operand.tmp 42) (Operand.const (Value.bool false))) (by kernel_rfl)
  have hgd := op_at ho (·.guard) (x := some (7, false)) (by kernel_rfl)
  have e7 : a.eval (.tmp 29) = .bool false := haft 7 (op_at ho (fun o => o.after.any fun e => decide (e.on = 7) && Region.binds .any e) (x := true) (by kernel_rfl))
  have e10 : a.eval (.tmp 32) = .bool false := haft 10 (op_at ho (fun o => o.after.any fun e => decide (e.on = 10) && Region.binds .any e) (x := true) (by kernel_rfl))
  refine .inl ⟨fun j b h => (by rw [hgd] at h; cases h; exact e7), ?_⟩
  exact specs_value (R := fun v W => caBS A nn cc b off np cp kk x 21 v W) (v := .bool false) (by simp [execOp, hop, go_sem, ev e10]) rfl (Ext.refl W)
set_option maxHeartbeats 1000000 in
theorem caB_op22 (haft : ∀ j, (o.after.any fun e => decide (e.on = j) && Region.binds .any e) = true → caBS A nn cc b off np cp kk x j (a.eval (.tmp (caD j))) W) (ho : caReg[22]? = some o) : caBOk A nn cc b off np cp kk x Q a W 22 o := by
  have hop := op_at ho (·.op) (x := Op.pick (Operand.tmp 29) (Operand.const (Value.bool true)) (Operand.tmp 43)) (by kernel_rfl)
  have hgd := op_at ho (·.guard) (x := none) (by kernel_rfl)
  have e7 : a.eval (.tmp 29) = .bool false := haft 7 (op_at ho (fun o => o.after.any fun e => decide (e.on = 7) && Region.binds .any e) (x := true) (by kernel_rfl))
  have e21 : a.eval (.tmp 43) = .bool false := haft 21 (op_at ho (fun o => o.after.any fun e => decide (e.on = 21) && Region.binds .any e) (x := true) (by kernel_rfl))
  refine .inl ⟨fun j b h => (by rw [hgd] at h; cases h), ?_⟩
  exact specs_value (R := fun v W => caBS A nn cc b off np cp kk x 22 v W) (v := .bool false) (by simp [execOp, hop, go_sem, ev e7, ev e21]) rfl (Ext.refl W)
set_option maxRecDepth 100000 in
set_option maxHeartbeats 4000000 in
/-- Region 6 of function 34, one way through it. -/
theorem caB_wp {id : Nat} (hlen : a.tmps.size = 100) (o0 : a.eval (.tmp 0) = .slice A nn cc) (o1 : a.eval (.tmp 1) = .slice (some ⟨b, off, none⟩) np cp) (o5 : a.eval (.tmp 5) = .int .i64 (kk : Int)) (hlp : (kk : Int) < (np : Int)) (cx : ∀ W, Ext V W → W.cell? ⟨b, off + kk, none⟩ = some (.int .i64 x)) (k1 : ∀ W, Ext V W → Calls Tryz.prog 55 #[.slice A nn cc, .int .i64 x] W fun e w' => e = .returned (.bool true) ∧ Ext W w') (h3 : kk = 0) (K : ∀ W, Ext V W → Q .normal (puts a [(22, .slice A nn cc), (23, .slice (some ⟨b, off, none⟩) np cp), (24, .int .i64 (kk : Int)), (25, .pointer (some ⟨b, off + kk, none⟩)), (26, .int .i64 x), (27, .bool true), (28, .bool false), (29, .bool false), (30, .int .i64 (kk : Int)), (31, .bool false), (32, .bool false), (33, undef), (34, undef), (35, undef), (36, undef), (37, undef), (38, undef), (39, undef), (40, undef), (41, undef), (42, undef), (43, .bool false), (44, .bool false)]) W) : (Code.region id caReg true).wp Tryz.prog Q a V := by
  refine wp_region_maybe (ops := caReg) (caBS A nn cc b off np cp kk x) (Ext V) (by kernel_rfl) (by rw [hlen]; kernel_rfl) ⟨rfl, rfl, rfl, Nat.le_refl _, fun _ _ => rfl⟩ (fun _ _ h e => h.trans e) (fun _ _ _ _ h _ => h) caD (by kernel_rfl) ?_ ?_
  · intro i o ho a' W hB hsz hold haft
    have hi : i < 23 := by
      have h1 := (Array.getElem?_eq_some_iff.1 ho).1
      have h2 := ca_size
      omega
    match i, hi with
    | 0, _ => exact caB_op0 ((hold 0 (by kernel_rfl)).trans o0) ho
    | 1, _ => exact caB_op1 ((hold 1 (by kernel_rfl)).trans o1) ho
    | 2, _ => exact caB_op2 ((hold 5 (by kernel_rfl)).trans o5) ho
    | 3, _ => exact caB_op3 hlp haft ho
    | 4, _ => exact caB_op4 cx hB haft ho
    | 5, _ => exact caB_op5 k1 hB haft ho
    | 6, _ => exact caB_op6 haft ho
    | 7, _ => exact caB_op7 haft ho
    | 8, _ => exact caB_op8 ((hold 5 (by kernel_rfl)).trans o5) haft ho
    | 9, _ => exact caB_op9 h3 haft ho
    | 10, _ => exact caB_op10 haft ho
    | 11, _ => exact caB_op11 haft ho
    | 12, _ => exact caB_op12 haft ho
    | 13, _ => exact caB_op13 haft ho
    | 14, _ => exact caB_op14 haft ho
    | 15, _ => exact caB_op15 haft ho
    | 16, _ => exact caB_op16 haft ho
    | 17, _ => exact caB_op17 haft ho
    | 18, _ => exact caB_op18 haft ho
    | 19, _ => exact caB_op19 haft ho
    | 20, _ => exact caB_op20 haft ho
    | 21, _ => exact caB_op21 haft ho
    | 22, _ => exact caB_op22 haft ho
    | m + 23, h => exact absurd h (by omega)
  · intro a1 W hB hsz hdf hold hS
    have hs2 := ca_size
    have hall : ∀ zz, zz ∈ ([(22, .slice A nn cc), (23, .slice (some ⟨b, off, none⟩) np cp), (24, .int .i64 (kk : Int)), (25, .pointer (some ⟨b, off + kk, none⟩)), (26, .int .i64 x), (27, .bool true), (28, .bool false), (29, .bool false), (30, .int .i64 (kk : Int)), (31, .bool false), (32, .bool false), (33, undef), (34, undef), (35, undef), (36, undef), (37, undef), (38, undef), (39, undef), (40, undef), (41, undef), (42, undef), (43, .bool false), (44, .bool false)] : List (Tmp × Value)) → zz.1 < a.tmps.size ∧ a1.eval (.tmp zz.1) = zz.2 := by
      intro zz hz
      rw [hlen]
      simp only [List.mem_cons, List.not_mem_nil, or_false] at hz
      rcases hz with rfl | rfl | rfl | rfl | rfl | rfl | rfl | rfl | rfl | rfl | rfl | rfl | rfl | rfl | rfl | rfl | rfl | rfl | rfl | rfl | rfl | rfl | rfl
      · exact ⟨(show (22 : Nat) < 100 by omega), hS 0 (by omega)⟩
      · exact ⟨(show (23 : Nat) < 100 by omega), hS 1 (by omega)⟩
      · exact ⟨(show (24 : Nat) < 100 by omega), hS 2 (by omega)⟩
      · exact ⟨(show (25 : Nat) < 100 by omega), hS 3 (by omega)⟩
      · exact ⟨(show (26 : Nat) < 100 by omega), hS 4 (by omega)⟩
      · exact ⟨(show (27 : Nat) < 100 by omega), hS 5 (by omega)⟩
      · exact ⟨(show (28 : Nat) < 100 by omega), hS 6 (by omega)⟩
      · exact ⟨(show (29 : Nat) < 100 by omega), hS 7 (by omega)⟩
      · exact ⟨(show (30 : Nat) < 100 by omega), hS 8 (by omega)⟩
      · exact ⟨(show (31 : Nat) < 100 by omega), hS 9 (by omega)⟩
      · exact ⟨(show (32 : Nat) < 100 by omega), hS 10 (by omega)⟩
      · exact ⟨(show (33 : Nat) < 100 by omega), hS 11 (by omega)⟩
      · exact ⟨(show (34 : Nat) < 100 by omega), hS 12 (by omega)⟩
      · exact ⟨(show (35 : Nat) < 100 by omega), hS 13 (by omega)⟩
      · exact ⟨(show (36 : Nat) < 100 by omega), hS 14 (by omega)⟩
      · exact ⟨(show (37 : Nat) < 100 by omega), hS 15 (by omega)⟩
      · exact ⟨(show (38 : Nat) < 100 by omega), hS 16 (by omega)⟩
      · exact ⟨(show (39 : Nat) < 100 by omega), hS 17 (by omega)⟩
      · exact ⟨(show (40 : Nat) < 100 by omega), hS 18 (by omega)⟩
      · exact ⟨(show (41 : Nat) < 100 by omega), hS 19 (by omega)⟩
      · exact ⟨(show (42 : Nat) < 100 by omega), hS 20 (by omega)⟩
      · exact ⟨(show (43 : Nat) < 100 by omega), hS 21 (by omega)⟩
      · exact ⟨(show (44 : Nat) < 100 by omega), hS 22 (by omega)⟩
    have ha := act_puts hsz hdf hall (fun t ht => hold t (by rw [hs2]; exact all_ne_of (l := [(22, .slice A nn cc), (23, .slice (some ⟨b, off, none⟩) np cp), (24, .int .i64 (kk : Int)), (25, .pointer (some ⟨b, off + kk, none⟩)), (26, .int .i64 x), (27, .bool true), (28, .bool false), (29, .bool false), (30, .int .i64 (kk : Int)), (31, .bool false), (32, .bool false), (33, undef), (34, undef), (35, undef), (36, undef), (37, undef), (38, undef), (39, undef), (40, undef), (41, undef), (42, undef), (43, .bool false), (44, .bool false)]) (by kernel_rfl) ht))
    rw [ha]
    exact K W hB
end
/-- What each operation yields. -/
def caCS (A : Option Addr) (nn cc b off np cp kk kq : Nat) (x y : Int) (ix : Nat) (v : Value) (_ : World) : Prop :=
  match ix with
  | 0 => v = .slice A nn cc
  | 1 => v = .slice (some ⟨b, off, none⟩) np cp
  | 2 => v = .int .i64 (kk : Int)
  | 3 => v = .pointer (some ⟨b, off + kk, none⟩)
  | 4 => v = .int .i64 x
  | 5 => v = .bool true
  | 6 => v = .bool false
  | 7 => v = .bool false
  | 8 => v = .int .i64 (kk : Int)
  | 9 => v = .bool true
  | 10 => v = .bool true
  | 11 => v = .slice (some ⟨b, off, none⟩) np cp
  | 12 => v = .int .i64 (kk : Int)
  | 13 => v = .pointer (some ⟨b, off + kk, none⟩)
  | 14 => v = .int .i64 x
  | 15 => v = .slice (some ⟨b, off, none⟩) np cp
  | 16 => v = .int .i64 (kk : Int)
  | 17 => v = .int .i64 (kq : Int)
  | 18 => v = .pointer (some ⟨b, off + kq, none⟩)
  | 19 => v = .int .i64 y
  | 20 => v = .bool (decide (x ≤ y))
  | 21 => v = .bool (decide (x ≤ y))
  | 22 => v = .bool (decide (x ≤ y))
  | _ => True
def caCOk (A : Option Addr) (nn cc b off np cp kk kq : Nat) (x y : Int) (Q : Exit → Act → World → Prop) (a : Act) (W : World) (ix : Nat) (o : Oper) : Prop :=
  ((∀ j b, o.guard = some (j, b) → a.eval (.tmp (caD j)) = .bool b) ∧ o.wp Tryz.prog a W (fun a'' W' => ∃ v, a'' = a.put o.dst v ∧ caCS A nn cc b off np cp kk kq x y ix v W' ∧ Below W.heap.size W W') Q) ∨ ((∃ j b, o.guard = some (j, b) ∧ a.eval (.tmp (caD j)) ≠ .bool b) ∧ caCS A nn cc b off np cp kk kq x y ix undef W)
section
variable {A : Option Addr} {nn cc b off np cp kk kq : Nat} {x y : Int} {Q : Exit → Act → World → Prop} {a : Act} {V W : World} {o : Oper}
set_option maxHeartbeats 1000000 in
theorem caC_op0 (o0 : a.eval (.tmp 0) = .slice A nn cc) (ho : caReg[0]? = some o) : caCOk A nn cc b off np cp kk kq x y Q a W 0 o := by
  have hop := op_at ho (·.op) (x := Op.move (Operand.tmp 0)) (by kernel_rfl)
  have hgd := op_at ho (·.guard) (x := none) (by kernel_rfl)
  refine .inl ⟨fun j b h => (by rw [hgd] at h; cases h), ?_⟩
  exact specs_value (R := fun v W => caCS A nn cc b off np cp kk kq x y 0 v W) (v := .slice A nn cc) (by simp [execOp, hop, go_sem, ev o0]) rfl (Ext.refl W)
set_option maxHeartbeats 1000000 in
theorem caC_op1 (o1 : a.eval (.tmp 1) = .slice (some ⟨b, off, none⟩) np cp) (ho : caReg[1]? = some o) : caCOk A nn cc b off np cp kk kq x y Q a W 1 o := by
  have hop := op_at ho (·.op) (x := Op.move (Operand.tmp 1)) (by kernel_rfl)
  have hgd := op_at ho (·.guard) (x := none) (by kernel_rfl)
  refine .inl ⟨fun j b h => (by rw [hgd] at h; cases h), ?_⟩
  exact specs_value (R := fun v W => caCS A nn cc b off np cp kk kq x y 1 v W) (v := .slice (some ⟨b, off, none⟩) np cp) (by simp [execOp, hop, go_sem, ev o1]) rfl (Ext.refl W)
set_option maxHeartbeats 1000000 in
theorem caC_op2 (o5 : a.eval (.tmp 5) = .int .i64 (kk : Int)) (ho : caReg[2]? = some o) : caCOk A nn cc b off np cp kk kq x y Q a W 2 o := by
  have hop := op_at ho (·.op) (x := Op.move (Operand.tmp 5)) (by kernel_rfl)
  have hgd := op_at ho (·.guard) (x := none) (by kernel_rfl)
  refine .inl ⟨fun j b h => (by rw [hgd] at h; cases h), ?_⟩
  exact specs_value (R := fun v W => caCS A nn cc b off np cp kk kq x y 2 v W) (v := .int .i64 (kk : Int)) (by simp [execOp, hop, go_sem, ev o5]) rfl (Ext.refl W)
set_option maxHeartbeats 1000000 in
theorem caC_op3 (hlp : (kk : Int) < (np : Int)) (haft : ∀ j, (o.after.any fun e => decide (e.on = j) && Region.binds .any e) = true → caCS A nn cc b off np cp kk kq x y j (a.eval (.tmp (caD j))) W) (ho : caReg[3]? = some o) : caCOk A nn cc b off np cp kk kq x y Q a W 3 o := by
  have hop := op_at ho (·.op) (x := Op.indexAddr 30 (Operand.tmp 23) (Operand.tmp 24)) (by kernel_rfl)
  have hgd := op_at ho (·.guard) (x := none) (by kernel_rfl)
  have e1 : a.eval (.tmp 23) = .slice (some ⟨b, off, none⟩) np cp := haft 1 (op_at ho (fun o => o.after.any fun e => decide (e.on = 1) && Region.binds .any e) (x := true) (by kernel_rfl))
  have e2 : a.eval (.tmp 24) = .int .i64 (kk : Int) := haft 2 (op_at ho (fun o => o.after.any fun e => decide (e.on = 2) && Region.binds .any e) (x := true) (by kernel_rfl))
  refine .inl ⟨fun j b h => (by rw [hgd] at h; cases h), ?_⟩
  exact specs_value (R := fun v W => caCS A nn cc b off np cp kk kq x y 3 v W) (v := .pointer (some ⟨b, off + kk, none⟩)) (by simp [execOp, hop, go_sem, ev e1, ev e2, hlp]) rfl (Ext.refl W)
set_option maxHeartbeats 1000000 in
theorem caC_op4 (cx : ∀ W, Ext V W → W.cell? ⟨b, off + kk, none⟩ = some (.int .i64 x)) (hB : Ext V W) (haft : ∀ j, (o.after.any fun e => decide (e.on = j) && Region.binds .any e) = true → caCS A nn cc b off np cp kk kq x y j (a.eval (.tmp (caD j))) W) (ho : caReg[4]? = some o) : caCOk A nn cc b off np cp kk kq x y Q a W 4 o := by
  have hop := op_at ho (·.op) (x := Op.load 3 (Operand.tmp 25)) (by kernel_rfl)
  have hgd := op_at ho (·.guard) (x := none) (by kernel_rfl)
  have e3 : a.eval (.tmp 25) = .pointer (some ⟨b, off + kk, none⟩) := haft 3 (op_at ho (fun o => o.after.any fun e => decide (e.on = 3) && Region.binds .any e) (x := true) (by kernel_rfl))
  refine .inl ⟨fun j b h => (by rw [hgd] at h; cases h), ?_⟩
  have cx' := cx W hB
  exact specs_value (R := fun v W => caCS A nn cc b off np cp kk kq x y 4 v W) (v := .int .i64 x) (by simp [execOp, hop, go_sem, ev e3, cx']) rfl (Ext.refl W)
set_option maxHeartbeats 1000000 in
theorem caC_op5 (k1 : ∀ W, Ext V W → Calls Tryz.prog 55 #[.slice A nn cc, .int .i64 x] W fun e w' => e = .returned (.bool true) ∧ Ext W w') (hB : Ext V W) (haft : ∀ j, (o.after.any fun e => decide (e.on = j) && Region.binds .any e) = true → caCS A nn cc b off np cp kk kq x y j (a.eval (.tmp (caD j))) W) (ho : caReg[5]? = some o) : caCOk A nn cc b off np cp kk kq x y Q a W 5 o := by
  have hop := op_at ho (·.op) (x := Op.call { callee := Callee.value (Operand.func 55), args := #[Operand.tmp 22, Operand.tmp 26], argTypes := #[22, 3] }) (by kernel_rfl)
  have hgd := op_at ho (·.guard) (x := none) (by kernel_rfl)
  have e0 : a.eval (.tmp 22) = .slice A nn cc := haft 0 (op_at ho (fun o => o.after.any fun e => decide (e.on = 0) && Region.binds .any e) (x := true) (by kernel_rfl))
  have e4 : a.eval (.tmp 26) = .int .i64 x := haft 4 (op_at ho (fun o => o.after.any fun e => decide (e.on = 4) && Region.binds .any e) (x := true) (by kernel_rfl))
  refine .inl ⟨fun j b h => (by rw [hgd] at h; cases h), ?_⟩
  refine specs_call (R := fun v W => caCS A nn cc b off np cp kk kq x y 5 v W) (f := 55) (args := #[.slice A nn cc, .int .i64 x]) (by simp [execOp, hop, go_sem, ev e0, ev e4]) ((k1 W hB).mono ?_)
  rintro e w' ⟨rfl, h3⟩
  exact ⟨_, rfl, rfl, h3⟩
set_option maxHeartbeats 1000000 in
theorem caC_op6 (haft : ∀ j, (o.after.any fun e => decide (e.on = j) && Region.binds .any e) = true → caCS A nn cc b off np cp kk kq x y j (a.eval (.tmp (caD j))) W) (ho : caReg[6]? = some o) : caCOk A nn cc b off np cp kk kq x y Q a W 6 o := by
  have hop := op_at ho (·.op) (x := Op.unOp UnOp.not 4 (Operand.tmp 27)) (by kernel_rfl)
  have hgd := op_at ho (·.guard) (x := none) (by kernel_rfl)
  have e5 : a.eval (.tmp 27) = .bool true := haft 5 (op_at ho (fun o => o.after.any fun e => decide (e.on = 5) && Region.binds .any e) (x := true) (by kernel_rfl))
  refine .inl ⟨fun j b h => (by rw [hgd] at h; cases h), ?_⟩
  exact specs_value (R := fun v W => caCS A nn cc b off np cp kk kq x y 6 v W) (v := .bool false) (by simp [execOp, hop, go_sem, ev e5]) rfl (Ext.refl W)
set_option maxHeartbeats 1000000 in
theorem caC_op7 (haft : ∀ j, (o.after.any fun e => decide (e.on = j) && Region.binds .any e) = true → caCS A nn cc b off np cp kk kq x y j (a.eval (.tmp (caD j))) W) (ho : caReg[7]? = some o) : caCOk A nn cc b off np cp kk kq x y Q a W 7 o := by
  have hop := op_at ho (·.op) (x := Op.move (Operand.tmp 28)) (by kernel_rfl)
  have hgd := op_at ho (·.guard) (x := none) (by kernel_rfl)
  have e6 : a.eval (.tmp 28) = .bool false := haft 6 (op_at ho (fun o => o.after.any fun e => decide (e.on = 6) && Region.binds .any e) (x := true) (by kernel_rfl))
  refine .inl ⟨fun j b h => (by rw [hgd] at h; cases h), ?_⟩
  exact specs_value (R := fun v W => caCS A nn cc b off np cp kk kq x y 7 v W) (v := .bool false) (by simp [execOp, hop, go_sem, ev e6]) rfl (Ext.refl W)
set_option maxHeartbeats 1000000 in
theorem caC_op8 (o5 : a.eval (.tmp 5) = .int .i64 (kk : Int)) (haft : ∀ j, (o.after.any fun e => decide (e.on = j) && Region.binds .any e) = true → caCS A nn cc b off np cp kk kq x y j (a.eval (.tmp (caD j))) W) (ho : caReg[8]? = some o) : caCOk A nn cc b off np cp kk kq x y Q a W 8 o := by
  have hop := op_at ho (·.op) (x := Op.move (Operand.tmp 5)) (by kernel_rfl)
  have hgd := op_at ho (·.guard) (x := some (7, false)) (by kernel_rfl)
  have e7 : a.eval (.tmp 29) = .bool false := haft 7 (op_at ho (fun o => o.after.any fun e => decide (e.on = 7) && Region.binds .any e) (x := true) (by kernel_rfl))
  refine .inl ⟨fun j b h => (by rw [hgd] at h; cases h; exact e7), ?_⟩
  exact specs_value (R := fun v W => caCS A nn cc b off np cp kk kq x y 8 v W) (v := .int .i64 (kk : Int)) (by simp [execOp, hop, go_sem, ev o5]) rfl (Ext.refl W)
set_option maxHeartbeats 1000000 in
theorem caC_op9 (h3 : 0 < kk) (haft : ∀ j, (o.after.any fun e => decide (e.on = j) && Region.binds .any e) = true → caCS A nn cc b off np cp kk kq x y j (a.eval (.tmp (caD j))) W) (ho : caReg[9]? = some o) : caCOk A nn cc b off np cp kk kq x y Q a W 9 o := by
  have hop := op_at ho (·.op) (x := Op.binOp BinOp.gtr 3 (Operand.tmp 30) (Operand.const (Value.int IntKind.i64 0)) 3) (by kernel_rfl)
  have hgd := op_at ho (·.guard) (x := some (7, false)) (by kernel_rfl)
  have e7 : a.eval (.tmp 29) = .bool false := haft 7 (op_at ho (fun o => o.after.any fun e => decide (e.on = 7) && Region.binds .any e) (x := true) (by kernel_rfl))
  have e8 : a.eval (.tmp 30) = .int .i64 (kk : Int) := haft 8 (op_at ho (fun o => o.after.any fun e => decide (e.on = 8) && Region.binds .any e) (x := true) (by kernel_rfl))
  refine .inl ⟨fun j b h => (by rw [hgd] at h; cases h; exact e7), ?_⟩
  exact specs_value (R := fun v W => caCS A nn cc b off np cp kk kq x y 9 v W) (v := .bool true) (by simp [execOp, hop, go_sem, ev e8, h3]) rfl (Ext.refl W)
set_option maxHeartbeats 1000000 in
theorem caC_op10 (haft : ∀ j, (o.after.any fun e => decide (e.on = j) && Region.binds .any e) = true → caCS A nn cc b off np cp kk kq x y j (a.eval (.tmp (caD j))) W) (ho : caReg[10]? = some o) : caCOk A nn cc b off np cp kk kq x y Q a W 10 o := by
  have hop := op_at ho (·.op) (x := Op.move (Operand.tmp 31)) (by kernel_rfl)
  have hgd := op_at ho (·.guard) (x := some (7, false)) (by kernel_rfl)
  have e7 : a.eval (.tmp 29) = .bool false := haft 7 (op_at ho (fun o => o.after.any fun e => decide (e.on = 7) && Region.binds .any e) (x := true) (by kernel_rfl))
  have e9 : a.eval (.tmp 31) = .bool true := haft 9 (op_at ho (fun o => o.after.any fun e => decide (e.on = 9) && Region.binds .any e) (x := true) (by kernel_rfl))
  refine .inl ⟨fun j b h => (by rw [hgd] at h; cases h; exact e7), ?_⟩
  exact specs_value (R := fun v W => caCS A nn cc b off np cp kk kq x y 10 v W) (v := .bool true) (by simp [execOp, hop, go_sem, ev e9]) rfl (Ext.refl W)
set_option maxHeartbeats 1000000 in
theorem caC_op11 (o1 : a.eval (.tmp 1) = .slice (some ⟨b, off, none⟩) np cp) (haft : ∀ j, (o.after.any fun e => decide (e.on = j) && Region.binds .any e) = true → caCS A nn cc b off np cp kk kq x y j (a.eval (.tmp (caD j))) W) (ho : caReg[11]? = some o) : caCOk A nn cc b off np cp kk kq x y Q a W 11 o := by
  have hop := op_at ho (·.op) (x := Op.move (Operand.tmp 1)) (by kernel_rfl)
  have hgd := op_at ho (·.guard) (x := some (10, true)) (by kernel_rfl)
  have e10 : a.eval (.tmp 32) = .bool true := haft 10 (op_at ho (fun o => o.after.any fun e => decide (e.on = 10) && Region.binds .any e) (x := true) (by kernel_rfl))
  refine .inl ⟨fun j b h => (by rw [hgd] at h; cases h; exact e10), ?_⟩
  exact specs_value (R := fun v W => caCS A nn cc b off np cp kk kq x y 11 v W) (v := .slice (some ⟨b, off, none⟩) np cp) (by simp [execOp, hop, go_sem, ev o1]) rfl (Ext.refl W)
set_option maxHeartbeats 1000000 in
theorem caC_op12 (o5 : a.eval (.tmp 5) = .int .i64 (kk : Int)) (haft : ∀ j, (o.after.any fun e => decide (e.on = j) && Region.binds .any e) = true → caCS A nn cc b off np cp kk kq x y j (a.eval (.tmp (caD j))) W) (ho : caReg[12]? = some o) : caCOk A nn cc b off np cp kk kq x y Q a W 12 o := by
  have hop := op_at ho (·.op) (x := Op.move (Operand.tmp 5)) (by kernel_rfl)
  have hgd := op_at ho (·.guard) (x := some (10, true)) (by kernel_rfl)
  have e10 : a.eval (.tmp 32) = .bool true := haft 10 (op_at ho (fun o => o.after.any fun e => decide (e.on = 10) && Region.binds .any e) (x := true) (by kernel_rfl))
  refine .inl ⟨fun j b h => (by rw [hgd] at h; cases h; exact e10), ?_⟩
  exact specs_value (R := fun v W => caCS A nn cc b off np cp kk kq x y 12 v W) (v := .int .i64 (kk : Int)) (by simp [execOp, hop, go_sem, ev o5]) rfl (Ext.refl W)
set_option maxHeartbeats 1000000 in
theorem caC_op13 (hlp : (kk : Int) < (np : Int)) (haft : ∀ j, (o.after.any fun e => decide (e.on = j) && Region.binds .any e) = true → caCS A nn cc b off np cp kk kq x y j (a.eval (.tmp (caD j))) W) (ho : caReg[13]? = some o) : caCOk A nn cc b off np cp kk kq x y Q a W 13 o := by
  have hop := op_at ho (·.op) (x := Op.indexAddr 30 (Operand.tmp 33) (Operand.tmp 34)) (by kernel_rfl)
  have hgd := op_at ho (·.guard) (x := some (10, true)) (by kernel_rfl)
  have e10 : a.eval (.tmp 32) = .bool true := haft 10 (op_at ho (fun o => o.after.any fun e => decide (e.on = 10) && Region.binds .any e) (x := true) (by kernel_rfl))
  have e11 : a.eval (.tmp 33) = .slice (some ⟨b, off, none⟩) np cp := haft 11 (op_at ho (fun o => o.after.any fun e => decide (e.on = 11) && Region.binds .any e) (x := true) (by kernel_rfl))
  have e12 : a.eval (.tmp 34) = .int .i64 (kk : Int) := haft 12 (op_at ho (fun o => o.after.any fun e => decide (e.on = 12) && Region.binds .any e) (x := true) (by kernel_rfl))
  refine .inl ⟨fun j b h => (by rw [hgd] at h; cases h; exact e10), ?_⟩
  exact specs_value (R := fun v W => caCS A nn cc b off np cp kk kq x y 13 v W) (v := .pointer (some ⟨b, off + kk, none⟩)) (by simp [execOp, hop, go_sem, ev e11, ev e12, hlp]) rfl (Ext.refl W)
set_option maxHeartbeats 1000000 in
theorem caC_op14 (cx : ∀ W, Ext V W → W.cell? ⟨b, off + kk, none⟩ = some (.int .i64 x)) (hB : Ext V W) (haft : ∀ j, (o.after.any fun e => decide (e.on = j) && Region.binds .any e) = true → caCS A nn cc b off np cp kk kq x y j (a.eval (.tmp (caD j))) W) (ho : caReg[14]? = some o) : caCOk A nn cc b off np cp kk kq x y Q a W 14 o := by
  have hop := op_at ho (·.op) (x := Op.load 3 (Operand.tmp 35)) (by kernel_rfl)
  have hgd := op_at ho (·.guard) (x := some (10, true)) (by kernel_rfl)
  have e10 : a.eval (.tmp 32) = .bool true := haft 10 (op_at ho (fun o => o.after.any fun e => decide (e.on = 10) && Region.binds .any e) (x := true) (by kernel_rfl))
  have e13 : a.eval (.tmp 35) = .pointer (some ⟨b, off + kk, none⟩) := haft 13 (op_at ho (fun o => o.after.any fun e => decide (e.on = 13) && Region.binds .any e) (x := true) (by kernel_rfl))
  refine .inl ⟨fun j b h => (by rw [hgd] at h; cases h; exact e10), ?_⟩
  have cx' := cx W hB
  exact specs_value (R := fun v W => caCS A nn cc b off np cp kk kq x y 14 v W) (v := .int .i64 x) (by simp [execOp, hop, go_sem, ev e13, cx']) rfl (Ext.refl W)
set_option maxHeartbeats 1000000 in
theorem caC_op15 (o1 : a.eval (.tmp 1) = .slice (some ⟨b, off, none⟩) np cp) (haft : ∀ j, (o.after.any fun e => decide (e.on = j) && Region.binds .any e) = true → caCS A nn cc b off np cp kk kq x y j (a.eval (.tmp (caD j))) W) (ho : caReg[15]? = some o) : caCOk A nn cc b off np cp kk kq x y Q a W 15 o := by
  have hop := op_at ho (·.op) (x := Op.move (Operand.tmp 1)) (by kernel_rfl)
  have hgd := op_at ho (·.guard) (x := some (10, true)) (by kernel_rfl)
  have e10 : a.eval (.tmp 32) = .bool true := haft 10 (op_at ho (fun o => o.after.any fun e => decide (e.on = 10) && Region.binds .any e) (x := true) (by kernel_rfl))
  refine .inl ⟨fun j b h => (by rw [hgd] at h; cases h; exact e10), ?_⟩
  exact specs_value (R := fun v W => caCS A nn cc b off np cp kk kq x y 15 v W) (v := .slice (some ⟨b, off, none⟩) np cp) (by simp [execOp, hop, go_sem, ev o1]) rfl (Ext.refl W)
set_option maxHeartbeats 1000000 in
theorem caC_op16 (o5 : a.eval (.tmp 5) = .int .i64 (kk : Int)) (haft : ∀ j, (o.after.any fun e => decide (e.on = j) && Region.binds .any e) = true → caCS A nn cc b off np cp kk kq x y j (a.eval (.tmp (caD j))) W) (ho : caReg[16]? = some o) : caCOk A nn cc b off np cp kk kq x y Q a W 16 o := by
  have hop := op_at ho (·.op) (x := Op.move (Operand.tmp 5)) (by kernel_rfl)
  have hgd := op_at ho (·.guard) (x := some (10, true)) (by kernel_rfl)
  have e10 : a.eval (.tmp 32) = .bool true := haft 10 (op_at ho (fun o => o.after.any fun e => decide (e.on = 10) && Region.binds .any e) (x := true) (by kernel_rfl))
  refine .inl ⟨fun j b h => (by rw [hgd] at h; cases h; exact e10), ?_⟩
  exact specs_value (R := fun v W => caCS A nn cc b off np cp kk kq x y 16 v W) (v := .int .i64 (kk : Int)) (by simp [execOp, hop, go_sem, ev o5]) rfl (Ext.refl W)
set_option maxHeartbeats 1000000 in
theorem caC_op17 (wq : IntKind.i64.wrap ((kk : Int) - 1) = (kq : Int)) (haft : ∀ j, (o.after.any fun e => decide (e.on = j) && Region.binds .any e) = true → caCS A nn cc b off np cp kk kq x y j (a.eval (.tmp (caD j))) W) (ho : caReg[17]? = some o) : caCOk A nn cc b off np cp kk kq x y Q a W 17 o := by
  have hop := op_at ho (·.op) (x := Op.binOp BinOp.sub 3 (Operand.tmp 38) (Operand.const (Value.int IntKind.i64 1)) 3) (by kernel_rfl)
  have hgd := op_at ho (·.guard) (x := some (10, true)) (by kernel_rfl)
  have e10 : a.eval (.tmp 32) = .bool true := haft 10 (op_at ho (fun o => o.after.any fun e => decide (e.on = 10) && Region.binds .any e) (x := true) (by kernel_rfl))
  have e16 : a.eval (.tmp 38) = .int .i64 (kk : Int) := haft 16 (op_at ho (fun o => o.after.any fun e => decide (e.on = 16) && Region.binds .any e) (x := true) (by kernel_rfl))
  refine .inl ⟨fun j b h => (by rw [hgd] at h; cases h; exact e10), ?_⟩
  exact specs_value (R := fun v W => caCS A nn cc b off np cp kk kq x y 17 v W) (v := .int .i64 (kq : Int)) (by simp [execOp, hop, go_sem, ev e16, wq]) rfl (Ext.refl W)
set_option maxHeartbeats 1000000 in
theorem caC_op18 (hlq : (kq : Int) < (np : Int)) (haft : ∀ j, (o.after.any fun e => decide (e.on = j) && Region.binds .any e) = true → caCS A nn cc b off np cp kk kq x y j (a.eval (.tmp (caD j))) W) (ho : caReg[18]? = some o) : caCOk A nn cc b off np cp kk kq x y Q a W 18 o := by
  have hop := op_at ho (·.op) (x := Op.indexAddr 30 (Operand.tmp 37) (Operand.tmp 39)) (by kernel_rfl)
  have hgd := op_at ho (·.guard) (x := some (10, true)) (by kernel_rfl)
  have e10 : a.eval (.tmp 32) = .bool true := haft 10 (op_at ho (fun o => o.after.any fun e => decide (e.on = 10) && Region.binds .any e) (x := true) (by kernel_rfl))
  have e15 : a.eval (.tmp 37) = .slice (some ⟨b, off, none⟩) np cp := haft 15 (op_at ho (fun o => o.after.any fun e => decide (e.on = 15) && Region.binds .any e) (x := true) (by kernel_rfl))
  have e17 : a.eval (.tmp 39) = .int .i64 (kq : Int) := haft 17 (op_at ho (fun o => o.after.any fun e => decide (e.on = 17) && Region.binds .any e) (x := true) (by kernel_rfl))
  refine .inl ⟨fun j b h => (by rw [hgd] at h; cases h; exact e10), ?_⟩
  exact specs_value (R := fun v W => caCS A nn cc b off np cp kk kq x y 18 v W) (v := .pointer (some ⟨b, off + kq, none⟩)) (by simp [execOp, hop, go_sem, ev e15, ev e17, hlq]) rfl (Ext.refl W)
set_option maxHeartbeats 1000000 in
theorem caC_op19 (cy : ∀ W, Ext V W → W.cell? ⟨b, off + kq, none⟩ = some (.int .i64 y)) (hB : Ext V W) (haft : ∀ j, (o.after.any fun e => decide (e.on = j) && Region.binds .any e) = true → caCS A nn cc b off np cp kk kq x y j (a.eval (.tmp (caD j))) W) (ho : caReg[19]? = some o) : caCOk A nn cc b off np cp kk kq x y Q a W 19 o := by
  have hop := op_at ho (·.op) (x := Op.load 3 (Operand.tmp 40)) (by kernel_rfl)
  have hgd := op_at ho (·.guard) (x := some (10, true)) (by kernel_rfl)
  have e10 : a.eval (.tmp 32) = .bool true := haft 10 (op_at ho (fun o => o.after.any fun e => decide (e.on = 10) && Region.binds .any e) (x := true) (by kernel_rfl))
  have e18 : a.eval (.tmp 40) = .pointer (some ⟨b, off + kq, none⟩) := haft 18 (op_at ho (fun o => o.after.any fun e => decide (e.on = 18) && Region.binds .any e) (x := true) (by kernel_rfl))
  refine .inl ⟨fun j b h => (by rw [hgd] at h; cases h; exact e10), ?_⟩
  have cy' := cy W hB
  exact specs_value (R := fun v W => caCS A nn cc b off np cp kk kq x y 19 v W) (v := .int .i64 y) (by simp [execOp, hop, go_sem, ev e18, cy']) rfl (Ext.refl W)
set_option maxHeartbeats 1000000 in
theorem caC_op20 (haft : ∀ j, (o.after.any fun e => decide (e.on = j) && Region.binds .any e) = true → caCS A nn cc b off np cp kk kq x y j (a.eval (.tmp (caD j))) W) (ho : caReg[20]? = some o) : caCOk A nn cc b off np cp kk kq x y Q a W 20 o := by
  have hop := op_at ho (·.op) (x := Op.binOp BinOp.leq 3 (Operand.tmp 36) (Operand.tmp 41) 3) (by kernel_rfl)
  have hgd := op_at ho (·.guard) (x := some (10, true)) (by kernel_rfl)
  have e10 : a.eval (.tmp 32) = .bool true := haft 10 (op_at ho (fun o => o.after.any fun e => decide (e.on = 10) && Region.binds .any e) (x := true) (by kernel_rfl))
  have e14 : a.eval (.tmp 36) = .int .i64 x := haft 14 (op_at ho (fun o => o.after.any fun e => decide (e.on = 14) && Region.binds .any e) (x := true) (by kernel_rfl))
  have e19 : a.eval (.tmp 41) = .int .i64 y := haft 19 (op_at ho (fun o => o.after.any fun e => decide (e.on = 19) && Region.binds .any e) (x := true) (by kernel_rfl))
  refine .inl ⟨fun j b h => (by rw [hgd] at h; cases h; exact e10), ?_⟩
  exact specs_value (R := fun v W => caCS A nn cc b off np cp kk kq x y 20 v W) (v := .bool (decide (x ≤ y))) (by simp [execOp, hop, go_sem, ev e14, ev e19]) rfl (Ext.refl W)
set_option maxHeartbeats 1000000 in
theorem caC_op21 (haft : ∀ j, (o.after.any fun e => decide (e.on = j) && Region.binds .any e) = true → caCS A nn cc b off np cp kk kq x y j (a.eval (.tmp (caD j))) W) (ho : caReg[21]? = some o) : caCOk A nn cc b off np cp kk kq x y Q a W 21 o := by
  have hop := op_at ho (·.op) (x := Op.pick (Operand.tmp 32) (Operand.tmp 42) (Operand.const (Value.bool false))) (by kernel_rfl)
  have hgd := op_at ho (·.guard) (x := some (7, false)) (by kernel_rfl)
  have e7 : a.eval (.tmp 29) = .bool false := haft 7 (op_at ho (fun o => o.after.any fun e => decide (e.on = 7) && Region.binds .any e) (x := true) (by kernel_rfl))
  have e10 : a.eval (.tmp 32) = .bool true := haft 10 (op_at ho (fun o => o.after.any fun e => decide (e.on = 10) && Region.binds .any e) (x := true) (by kernel_rfl))
  have e20 : a.eval (.tmp 42) = .bool (decide (x ≤ y)) := haft 20 (op_at ho (fun o => o.after.any fun e => decide (e.on = 20) && Region.binds .any e) (x := true) (by kernel_rfl))
  refine .inl ⟨fun j b h => (by rw [hgd] at h; cases h; exact e7), ?_⟩
  exact specs_value (R := fun v W => caCS A nn cc b off np cp kk kq x y 21 v W) (v := .bool (decide (x ≤ y))) (by simp [execOp, hop, go_sem, ev e10, ev e20]) rfl (Ext.refl W)
set_option maxHeartbeats 1000000 in
theorem caC_op22 (haft : ∀ j, (o.after.any fun e => decide (e.on = j) && Region.binds .any e) = true → caCS A nn cc b off np cp kk kq x y j (a.eval (.tmp (caD j))) W) (ho : caReg[22]? = some o) : caCOk A nn cc b off np cp kk kq x y Q a W 22 o := by
  have hop := op_at ho (·.op) (x := Op.pick (Operand.tmp 29) (Operand.const (Value.bool true)) (Operand.tmp 43)) (by kernel_rfl)
  have hgd := op_at ho (·.guard) (x := none) (by kernel_rfl)
  have e7 : a.eval (.tmp 29) = .bool false := haft 7 (op_at ho (fun o => o.after.any fun e => decide (e.on = 7) && Region.binds .any e) (x := true) (by kernel_rfl))
  have e21 : a.eval (.tmp 43) = .bool (decide (x ≤ y)) := haft 21 (op_at ho (fun o => o.after.any fun e => decide (e.on = 21) && Region.binds .any e) (x := true) (by kernel_rfl))
  refine .inl ⟨fun j b h => (by rw [hgd] at h; cases h), ?_⟩
  exact specs_value (R := fun v W => caCS A nn cc b off np cp kk kq x y 22 v W) (v := .bool (decide (x ≤ y))) (by simp [execOp, hop, go_sem, ev e7, ev e21]) rfl (Ext.refl W)
set_option maxRecDepth 100000 in
set_option maxHeartbeats 4000000 in
/-- Region 6 of function 34, one way through it. -/
theorem caC_wp {id : Nat} (hlen : a.tmps.size = 100) (o0 : a.eval (.tmp 0) = .slice A nn cc) (o1 : a.eval (.tmp 1) = .slice (some ⟨b, off, none⟩) np cp) (o5 : a.eval (.tmp 5) = .int .i64 (kk : Int)) (hlp : (kk : Int) < (np : Int)) (cx : ∀ W, Ext V W → W.cell? ⟨b, off + kk, none⟩ = some (.int .i64 x)) (k1 : ∀ W, Ext V W → Calls Tryz.prog 55 #[.slice A nn cc, .int .i64 x] W fun e w' => e = .returned (.bool true) ∧ Ext W w') (h3 : 0 < kk) (wq : IntKind.i64.wrap ((kk : Int) - 1) = (kq : Int)) (hlq : (kq : Int) < (np : Int)) (cy : ∀ W, Ext V W → W.cell? ⟨b, off + kq, none⟩ = some (.int .i64 y)) (K : ∀ W, Ext V W → Q .normal (puts a [(22, .slice A nn cc), (23, .slice (some ⟨b, off, none⟩) np cp), (24, .int .i64 (kk : Int)), (25, .pointer (some ⟨b, off + kk, none⟩)), (26, .int .i64 x), (27, .bool true), (28, .bool false), (29, .bool false), (30, .int .i64 (kk : Int)), (31, .bool true), (32, .bool true), (33, .slice (some ⟨b, off, none⟩) np cp), (34, .int .i64 (kk : Int)), (35, .pointer (some ⟨b, off + kk, none⟩)), (36, .int .i64 x), (37, .slice (some ⟨b, off, none⟩) np cp), (38, .int .i64 (kk : Int)), (39, .int .i64 (kq : Int)), (40, .pointer (some ⟨b, off + kq, none⟩)), (41, .int .i64 y), (42, .bool (decide (x ≤ y))), (43, .bool (decide (x ≤ y))), (44, .bool (decide (x ≤ y)))]) W) : (Code.region id caReg true).wp Tryz.prog Q a V := by
  refine wp_region_maybe (ops := caReg) (caCS A nn cc b off np cp kk kq x y) (Ext V) (by kernel_rfl) (by rw [hlen]; kernel_rfl) ⟨rfl, rfl, rfl, Nat.le_refl _, fun _ _ => rfl⟩ (fun _ _ h e => h.trans e) (fun _ _ _ _ h _ => h) caD (by kernel_rfl) ?_ ?_
  · intro i o ho a' W hB hsz hold haft
    have hi : i < 23 := by
      have h1 := (Array.getElem?_eq_some_iff.1 ho).1
      have h2 := ca_size
      omega
    match i, hi with
    | 0, _ => exact caC_op0 ((hold 0 (by kernel_rfl)).trans o0) ho
    | 1, _ => exact caC_op1 ((hold 1 (by kernel_rfl)).trans o1) ho
    | 2, _ => exact caC_op2 ((hold 5 (by kernel_rfl)).trans o5) ho
    | 3, _ => exact caC_op3 hlp haft ho
    | 4, _ => exact caC_op4 cx hB haft ho
    | 5, _ => exact caC_op5 k1 hB haft ho
    | 6, _ => exact caC_op6 haft ho
    | 7, _ => exact caC_op7 haft ho
    | 8, _ => exact caC_op8 ((hold 5 (by kernel_rfl)).trans o5) haft ho
    | 9, _ => exact caC_op9 h3 haft ho
    | 10, _ => exact caC_op10 haft ho
    | 11, _ => exact caC_op11 ((hold 1 (by kernel_rfl)).trans o1) haft ho
    | 12, _ => exact caC_op12 ((hold 5 (by kernel_rfl)).trans o5) haft ho
    | 13, _ => exact caC_op13 hlp haft ho
    | 14, _ => exact caC_op14 cx hB haft ho
    | 15, _ => exact caC_op15 ((hold 1 (by kernel_rfl)).trans o1) haft ho
    | 16, _ => exact caC_op16 ((hold 5 (by kernel_rfl)).trans o5) haft ho
    | 17, _ => exact caC_op17 wq haft ho
    | 18, _ => exact caC_op18 hlq haft ho
    | 19, _ => exact caC_op19 cy hB haft ho
    | 20, _ => exact caC_op20 haft ho
    | 21, _ => exact caC_op21 haft ho
    | 22, _ => exact caC_op22 haft ho
    | m + 23, h => exact absurd h (by omega)
  · intro a1 W hB hsz hdf hold hS
    have hs2 := ca_size
    have hall : ∀ zz, zz ∈ ([(22, .slice A nn cc), (23, .slice (some ⟨b, off, none⟩) np cp), (24, .int .i64 (kk : Int)), (25, .pointer (some ⟨b, off + kk, none⟩)), (26, .int .i64 x), (27, .bool true), (28, .bool false), (29, .bool false), (30, .int .i64 (kk : Int)), (31, .bool true), (32, .bool true), (33, .slice (some ⟨b, off, none⟩) np cp), (34, .int .i64 (kk : Int)), (35, .pointer (some ⟨b, off + kk, none⟩)), (36, .int .i64 x), (37, .slice (some ⟨b, off, none⟩) np cp), (38, .int .i64 (kk : Int)), (39, .int .i64 (kq : Int)), (40, .pointer (some ⟨b, off + kq, none⟩)), (41, .int .i64 y), (42, .bool (decide (x ≤ y))), (43, .bool (decide (x ≤ y))), (44, .bool (decide (x ≤ y)))] : List (Tmp × Value)) → zz.1 < a.tmps.size ∧ a1.eval (.tmp zz.1) = zz.2 := by
      intro zz hz
      rw [hlen]
      simp only [List.mem_cons, List.not_mem_nil, or_false] at hz
      rcases hz with rfl | rfl | rfl | rfl | rfl | rfl | rfl | rfl | rfl | rfl | rfl | rfl | rfl | rfl | rfl | rfl | rfl | rfl | rfl | rfl | rfl | rfl | rfl
      · exact ⟨(show (22 : Nat) < 100 by omega), hS 0 (by omega)⟩
      · exact ⟨(show (23 : Nat) < 100 by omega), hS 1 (by omega)⟩
      · exact ⟨(show (24 : Nat) < 100 by omega), hS 2 (by omega)⟩
      · exact ⟨(show (25 : Nat) < 100 by omega), hS 3 (by omega)⟩
      · exact ⟨(show (26 : Nat) < 100 by omega), hS 4 (by omega)⟩
      · exact ⟨(show (27 : Nat) < 100 by omega), hS 5 (by omega)⟩
      · exact ⟨(show (28 : Nat) < 100 by omega), hS 6 (by omega)⟩
      · exact ⟨(show (29 : Nat) < 100 by omega), hS 7 (by omega)⟩
      · exact ⟨(show (30 : Nat) < 100 by omega), hS 8 (by omega)⟩
      · exact ⟨(show (31 : Nat) < 100 by omega), hS 9 (by omega)⟩
      · exact ⟨(show (32 : Nat) < 100 by omega), hS 10 (by omega)⟩
      · exact ⟨(show (33 : Nat) < 100 by omega), hS 11 (by omega)⟩
      · exact ⟨(show (34 : Nat) < 100 by omega), hS 12 (by omega)⟩
      · exact ⟨(show (35 : Nat) < 100 by omega), hS 13 (by omega)⟩
      · exact ⟨(show (36 : Nat) < 100 by omega), hS 14 (by omega)⟩
      · exact ⟨(show (37 : Nat) < 100 by omega), hS 15 (by omega)⟩
      · exact ⟨(show (38 : Nat) < 100 by omega), hS 16 (by omega)⟩
      · exact ⟨(show (39 : Nat) < 100 by omega), hS 17 (by omega)⟩
      · exact ⟨(show (40 : Nat) < 100 by omega), hS 18 (by omega)⟩
      · exact ⟨(show (41 : Nat) < 100 by omega), hS 19 (by omega)⟩
      · exact ⟨(show (42 : Nat) < 100 by omega), hS 20 (by omega)⟩
      · exact ⟨(show (43 : Nat) < 100 by omega), hS 21 (by omega)⟩
      · exact ⟨(show (44 : Nat) < 100 by omega), hS 22 (by omega)⟩
    have ha := act_puts hsz hdf hall (fun t ht => hold t (by rw [hs2]; exact all_ne_of (l := [(22, .slice A nn cc), (23, .slice (some ⟨b, off, none⟩) np cp), (24, .int .i64 (kk : Int)), (25, .pointer (some ⟨b, off + kk, none⟩)), (26, .int .i64 x), (27, .bool true), (28, .bool false), (29, .bool false), (30, .int .i64 (kk : Int)), (31, .bool true), (32, .bool true), (33, .slice (some ⟨b, off, none⟩) np cp), (34, .int .i64 (kk : Int)), (35, .pointer (some ⟨b, off + kk, none⟩)), (36, .int .i64 x), (37, .slice (some ⟨b, off, none⟩) np cp), (38, .int .i64 (kk : Int)), (39, .int .i64 (kq : Int)), (40, .pointer (some ⟨b, off + kq, none⟩)), (41, .int .i64 y), (42, .bool (decide (x ≤ y))), (43, .bool (decide (x ≤ y))), (44, .bool (decide (x ≤ y)))]) (by kernel_rfl) ht))
    rw [ha]
    exact K W hB
end

/-- The slots of region 11 of function 34. -/
def ca11D (i : Nat) : Tmp := if i = 0 then 51 else if i = 1 then 52 else if i = 2 then 53 else if i = 3 then 54 else if i = 4 then 55 else if i = 5 then 56 else if i = 6 then 57 else if i = 7 then 58 else if i = 8 then 59 else if i = 9 then 60 else if i = 10 then 61 else if i = 11 then 62 else if i = 12 then 63 else if i = 13 then 64 else 65
/-- What each operation yields. -/
def ca11S (A : Option Addr) (nn cc b off np cp kk : Nat) (x lo hi2 : Int) (ix : Nat) (v : Value) (_W : World) : Prop :=
  match ix with
  | 0 => v = .slice A nn cc
  | 1 => v = .slice (some ⟨b, off, none⟩) np cp
  | 2 => v = .int .i64 (kk : Int)
  | 3 => v = .pointer (some ⟨b, off + kk, none⟩)
  | 4 => v = .int .i64 x
  | 5 => v = .agg #[.int .i64 lo, .int .i64 hi2]
  | 6 => v = .int .i64 lo
  | 7 => v = .slice A nn cc
  | 8 => v = .slice (some ⟨b, off, none⟩) np cp
  | 9 => v = .int .i64 (kk : Int)
  | 10 => v = .pointer (some ⟨b, off + kk, none⟩)
  | 11 => v = .int .i64 x
  | 12 => v = .agg #[.int .i64 lo, .int .i64 hi2]
  | 13 => v = .int .i64 hi2
  | 14 => v = .bool (decide (hi2 < lo))
  | _ => True
noncomputable def ca11Reg : Array Oper := (Tryz.f34.body.bind (regionOf · 11)).getD #[]
theorem ca11S_ext {A : Option Addr} {nn cc b off np cp kk : Nat} {x lo hi2 : Int} : ∀ (i : Nat) (v : Value) (W W' : World), ca11S A nn cc b off np cp kk x lo hi2 i v W → Below W.heap.size W W' → ca11S A nn cc b off np cp kk x lo hi2 i v W' := by
  intro i v W W' h e
  match i with
  | 0 => exact h
  | 1 => exact h
  | 2 => exact h
  | 3 => exact h
  | 4 => exact h
  | 5 => exact h
  | 6 => exact h
  | 7 => exact h
  | 8 => exact h
  | 9 => exact h
  | 10 => exact h
  | 11 => exact h
  | 12 => exact h
  | 13 => exact h
  | 14 => exact h
  | k + 15 => exact trivial
def ca11Ok (A : Option Addr) (nn cc b off np cp kk : Nat) (x lo hi2 : Int) (Q : Exit → Act → World → Prop) (a : Act) (W : World) (ix : Nat) (o : Oper) : Prop :=
  (∀ j b, o.guard = some (j, b) → a.eval (.tmp (ca11D j)) = .bool b) ∧ o.wp Tryz.prog a W (fun a'' W' => ∃ v, a'' = a.put o.dst v ∧ ca11S A nn cc b off np cp kk x lo hi2 ix v W' ∧ Below W.heap.size W W') Q
section
variable {A : Option Addr} {nn cc b off np cp kk : Nat} {x lo hi2 : Int} {Q : Exit → Act → World → Prop} {a : Act} {V W : World} {o : Oper}
set_option maxHeartbeats 1000000 in
theorem ca11_op0 (o0 : a.eval (.tmp 0) = .slice A nn cc) (ho : ca11Reg[0]? = some o) : ca11Ok A nn cc b off np cp kk x lo hi2 Q a W 0 o := by
  have hop := op_at ho (·.op) (x := Op.move (Operand.tmp 0)) (by kernel_rfl)
  have hgd := op_at ho (·.guard) (x := none) (by kernel_rfl)
  refine ⟨fun j b h => (by rw [hgd] at h; cases h), ?_⟩
  exact specs_value (R := fun v W => ca11S A nn cc b off np cp kk x lo hi2 0 v W) (v := .slice A nn cc) (by simp [execOp, hop, go_sem, ev o0]) rfl (Ext.refl W)
set_option maxHeartbeats 1000000 in
theorem ca11_op1 (o1 : a.eval (.tmp 1) = .slice (some ⟨b, off, none⟩) np cp) (ho : ca11Reg[1]? = some o) : ca11Ok A nn cc b off np cp kk x lo hi2 Q a W 1 o := by
  have hop := op_at ho (·.op) (x := Op.move (Operand.tmp 1)) (by kernel_rfl)
  have hgd := op_at ho (·.guard) (x := none) (by kernel_rfl)
  refine ⟨fun j b h => (by rw [hgd] at h; cases h), ?_⟩
  exact specs_value (R := fun v W => ca11S A nn cc b off np cp kk x lo hi2 1 v W) (v := .slice (some ⟨b, off, none⟩) np cp) (by simp [execOp, hop, go_sem, ev o1]) rfl (Ext.refl W)
set_option maxHeartbeats 1000000 in
theorem ca11_op2 (o6 : a.eval (.tmp 6) = .int .i64 (kk : Int)) (ho : ca11Reg[2]? = some o) : ca11Ok A nn cc b off np cp kk x lo hi2 Q a W 2 o := by
  have hop := op_at ho (·.op) (x := Op.move (Operand.tmp 6)) (by kernel_rfl)
  have hgd := op_at ho (·.guard) (x := none) (by kernel_rfl)
  refine ⟨fun j b h => (by rw [hgd] at h; cases h), ?_⟩
  exact specs_value (R := fun v W => ca11S A nn cc b off np cp kk x lo hi2 2 v W) (v := .int .i64 (kk : Int)) (by simp [execOp, hop, go_sem, ev o6]) rfl (Ext.refl W)
set_option maxHeartbeats 1000000 in
theorem ca11_op3 (hlp : (kk : Int) < (np : Int)) (haft : ∀ j, (o.after.any fun e => decide (e.on = j) && Region.binds .any e) = true → ca11S A nn cc b off np cp kk x lo hi2 j (a.eval (.tmp (ca11D j))) W) (ho : ca11Reg[3]? = some o) : ca11Ok A nn cc b off np cp kk x lo hi2 Q a W 3 o := by
  have hop := op_at ho (·.op) (x := Op.indexAddr 30 (Operand.tmp 52) (Operand.tmp 53)) (by kernel_rfl)
  have hgd := op_at ho (·.guard) (x := none) (by kernel_rfl)
  have e1 : a.eval (.tmp 52) = .slice (some ⟨b, off, none⟩) np cp := haft 1 (op_at ho (fun o => o.after.any fun e => decide (e.on = 1) && Region.binds .any e) (x := true) (by kernel_rfl))
  have e2 : a.eval (.tmp 53) = .int .i64 (kk : Int) := haft 2 (op_at ho (fun o => o.after.any fun e => decide (e.on = 2) && Region.binds .any e) (x := true) (by kernel_rfl))
  refine ⟨fun j b h => (by rw [hgd] at h; cases h), ?_⟩
  exact specs_value (R := fun v W => ca11S A nn cc b off np cp kk x lo hi2 3 v W) (v := .pointer (some ⟨b, off + kk, none⟩)) (by simp [execOp, hop, go_sem, ev e1, ev e2, hlp]) rfl (Ext.refl W)
set_option maxHeartbeats 1000000 in
theorem ca11_op4 (cx : ∀ W, Ext V W → W.cell? ⟨b, off + kk, none⟩ = some (.int .i64 x)) (hB : Ext V W) (haft : ∀ j, (o.after.any fun e => decide (e.on = j) && Region.binds .any e) = true → ca11S A nn cc b off np cp kk x lo hi2 j (a.eval (.tmp (ca11D j))) W) (ho : ca11Reg[4]? = some o) : ca11Ok A nn cc b off np cp kk x lo hi2 Q a W 4 o := by
  have hop := op_at ho (·.op) (x := Op.load 3 (Operand.tmp 54)) (by kernel_rfl)
  have hgd := op_at ho (·.guard) (x := none) (by kernel_rfl)
  have e3 : a.eval (.tmp 54) = .pointer (some ⟨b, off + kk, none⟩) := haft 3 (op_at ho (fun o => o.after.any fun e => decide (e.on = 3) && Region.binds .any e) (x := true) (by kernel_rfl))
  refine ⟨fun j b h => (by rw [hgd] at h; cases h), ?_⟩
  have cx' := cx W hB
  exact specs_value (R := fun v W => ca11S A nn cc b off np cp kk x lo hi2 4 v W) (v := .int .i64 x) (by simp [execOp, hop, go_sem, ev e3, cx']) rfl (Ext.refl W)
set_option maxHeartbeats 1000000 in
theorem ca11_op5 (k1 : ∀ W, Ext V W → Calls Tryz.prog 56 #[.slice A nn cc, .int .i64 x] W fun e w' => e = .returned (.agg #[.int .i64 lo, .int .i64 hi2]) ∧ Ext W w') (hB : Ext V W) (haft : ∀ j, (o.after.any fun e => decide (e.on = j) && Region.binds .any e) = true → ca11S A nn cc b off np cp kk x lo hi2 j (a.eval (.tmp (ca11D j))) W) (ho : ca11Reg[5]? = some o) : ca11Ok A nn cc b off np cp kk x lo hi2 Q a W 5 o := by
  have hop := op_at ho (·.op) (x := Op.call { callee := Callee.value (Operand.func 56), args := #[Operand.tmp 51, Operand.tmp 55], argTypes := #[22, 3] }) (by kernel_rfl)
  have hgd := op_at ho (·.guard) (x := none) (by kernel_rfl)
  have e0 : a.eval (.tmp 51) = .slice A nn cc := haft 0 (op_at ho (fun o => o.after.any fun e => decide (e.on = 0) && Region.binds .any e) (x := true) (by kernel_rfl))
  have e4 : a.eval (.tmp 55) = .int .i64 x := haft 4 (op_at ho (fun o => o.after.any fun e => decide (e.on = 4) && Region.binds .any e) (x := true) (by kernel_rfl))
  refine ⟨fun j b h => (by rw [hgd] at h; cases h), ?_⟩
  refine specs_call (R := fun v W => ca11S A nn cc b off np cp kk x lo hi2 5 v W) (f := 56) (args := #[.slice A nn cc, .int .i64 x]) (by simp [execOp, hop, go_sem, ev e0, ev e4]) ((k1 W hB).mono ?_)
  rintro e w' ⟨rfl, h3⟩
  exact ⟨_, rfl, rfl, h3⟩
set_option maxHeartbeats 1000000 in
theorem ca11_op6 (haft : ∀ j, (o.after.any fun e => decide (e.on = j) && Region.binds .any e) = true → ca11S A nn cc b off np cp kk x lo hi2 j (a.eval (.tmp (ca11D j))) W) (ho : ca11Reg[6]? = some o) : ca11Ok A nn cc b off np cp kk x lo hi2 Q a W 6 o := by
  have hop := op_at ho (·.op) (x := Op.field 26 (Operand.tmp 56) 0) (by kernel_rfl)
  have hgd := op_at ho (·.guard) (x := none) (by kernel_rfl)
  have e5 : a.eval (.tmp 56) = .agg #[.int .i64 lo, .int .i64 hi2] := haft 5 (op_at ho (fun o => o.after.any fun e => decide (e.on = 5) && Region.binds .any e) (x := true) (by kernel_rfl))
  refine ⟨fun j b h => (by rw [hgd] at h; cases h), ?_⟩
  exact specs_value (R := fun v W => ca11S A nn cc b off np cp kk x lo hi2 6 v W) (v := .int .i64 lo) (by simp [execOp, hop, go_sem, ev e5, run_field26_0]) rfl (Ext.refl W)
set_option maxHeartbeats 1000000 in
theorem ca11_op7 (o0 : a.eval (.tmp 0) = .slice A nn cc) (ho : ca11Reg[7]? = some o) : ca11Ok A nn cc b off np cp kk x lo hi2 Q a W 7 o := by
  have hop := op_at ho (·.op) (x := Op.move (Operand.tmp 0)) (by kernel_rfl)
  have hgd := op_at ho (·.guard) (x := none) (by kernel_rfl)
  refine ⟨fun j b h => (by rw [hgd] at h; cases h), ?_⟩
  exact specs_value (R := fun v W => ca11S A nn cc b off np cp kk x lo hi2 7 v W) (v := .slice A nn cc) (by simp [execOp, hop, go_sem, ev o0]) rfl (Ext.refl W)
set_option maxHeartbeats 1000000 in
theorem ca11_op8 (o1 : a.eval (.tmp 1) = .slice (some ⟨b, off, none⟩) np cp) (ho : ca11Reg[8]? = some o) : ca11Ok A nn cc b off np cp kk x lo hi2 Q a W 8 o := by
  have hop := op_at ho (·.op) (x := Op.move (Operand.tmp 1)) (by kernel_rfl)
  have hgd := op_at ho (·.guard) (x := none) (by kernel_rfl)
  refine ⟨fun j b h => (by rw [hgd] at h; cases h), ?_⟩
  exact specs_value (R := fun v W => ca11S A nn cc b off np cp kk x lo hi2 8 v W) (v := .slice (some ⟨b, off, none⟩) np cp) (by simp [execOp, hop, go_sem, ev o1]) rfl (Ext.refl W)
set_option maxHeartbeats 1000000 in
theorem ca11_op9 (o6 : a.eval (.tmp 6) = .int .i64 (kk : Int)) (ho : ca11Reg[9]? = some o) : ca11Ok A nn cc b off np cp kk x lo hi2 Q a W 9 o := by
  have hop := op_at ho (·.op) (x := Op.move (Operand.tmp 6)) (by kernel_rfl)
  have hgd := op_at ho (·.guard) (x := none) (by kernel_rfl)
  refine ⟨fun j b h => (by rw [hgd] at h; cases h), ?_⟩
  exact specs_value (R := fun v W => ca11S A nn cc b off np cp kk x lo hi2 9 v W) (v := .int .i64 (kk : Int)) (by simp [execOp, hop, go_sem, ev o6]) rfl (Ext.refl W)
set_option maxHeartbeats 1000000 in
theorem ca11_op10 (hlp : (kk : Int) < (np : Int)) (haft : ∀ j, (o.after.any fun e => decide (e.on = j) && Region.binds .any e) = true → ca11S A nn cc b off np cp kk x lo hi2 j (a.eval (.tmp (ca11D j))) W) (ho : ca11Reg[10]? = some o) : ca11Ok A nn cc b off np cp kk x lo hi2 Q a W 10 o := by
  have hop := op_at ho (·.op) (x := Op.indexAddr 30 (Operand.tmp 59) (Operand.tmp 60)) (by kernel_rfl)
  have hgd := op_at ho (·.guard) (x := none) (by kernel_rfl)
  have e8 : a.eval (.tmp 59) = .slice (some ⟨b, off, none⟩) np cp := haft 8 (op_at ho (fun o => o.after.any fun e => decide (e.on = 8) && Region.binds .any e) (x := true) (by kernel_rfl))
  have e9 : a.eval (.tmp 60) = .int .i64 (kk : Int) := haft 9 (op_at ho (fun o => o.after.any fun e => decide (e.on = 9) && Region.binds .any e) (x := true) (by kernel_rfl))
  refine ⟨fun j b h => (by rw [hgd] at h; cases h), ?_⟩
  exact specs_value (R := fun v W => ca11S A nn cc b off np cp kk x lo hi2 10 v W) (v := .pointer (some ⟨b, off + kk, none⟩)) (by simp [execOp, hop, go_sem, ev e8, ev e9, hlp]) rfl (Ext.refl W)
set_option maxHeartbeats 1000000 in
theorem ca11_op11 (cx : ∀ W, Ext V W → W.cell? ⟨b, off + kk, none⟩ = some (.int .i64 x)) (hB : Ext V W) (haft : ∀ j, (o.after.any fun e => decide (e.on = j) && Region.binds .any e) = true → ca11S A nn cc b off np cp kk x lo hi2 j (a.eval (.tmp (ca11D j))) W) (ho : ca11Reg[11]? = some o) : ca11Ok A nn cc b off np cp kk x lo hi2 Q a W 11 o := by
  have hop := op_at ho (·.op) (x := Op.load 3 (Operand.tmp 61)) (by kernel_rfl)
  have hgd := op_at ho (·.guard) (x := none) (by kernel_rfl)
  have e10 : a.eval (.tmp 61) = .pointer (some ⟨b, off + kk, none⟩) := haft 10 (op_at ho (fun o => o.after.any fun e => decide (e.on = 10) && Region.binds .any e) (x := true) (by kernel_rfl))
  refine ⟨fun j b h => (by rw [hgd] at h; cases h), ?_⟩
  have cx' := cx W hB
  exact specs_value (R := fun v W => ca11S A nn cc b off np cp kk x lo hi2 11 v W) (v := .int .i64 x) (by simp [execOp, hop, go_sem, ev e10, cx']) rfl (Ext.refl W)
set_option maxHeartbeats 1000000 in
theorem ca11_op12 (k1 : ∀ W, Ext V W → Calls Tryz.prog 56 #[.slice A nn cc, .int .i64 x] W fun e w' => e = .returned (.agg #[.int .i64 lo, .int .i64 hi2]) ∧ Ext W w') (hB : Ext V W) (haft : ∀ j, (o.after.any fun e => decide (e.on = j) && Region.binds .any e) = true → ca11S A nn cc b off np cp kk x lo hi2 j (a.eval (.tmp (ca11D j))) W) (ho : ca11Reg[12]? = some o) : ca11Ok A nn cc b off np cp kk x lo hi2 Q a W 12 o := by
  have hop := op_at ho (·.op) (x := Op.call { callee := Callee.value (Operand.func 56), args := #[Operand.tmp 58, Operand.tmp 62], argTypes := #[22, 3] }) (by kernel_rfl)
  have hgd := op_at ho (·.guard) (x := none) (by kernel_rfl)
  have e7 : a.eval (.tmp 58) = .slice A nn cc := haft 7 (op_at ho (fun o => o.after.any fun e => decide (e.on = 7) && Region.binds .any e) (x := true) (by kernel_rfl))
  have e11 : a.eval (.tmp 62) = .int .i64 x := haft 11 (op_at ho (fun o => o.after.any fun e => decide (e.on = 11) && Region.binds .any e) (x := true) (by kernel_rfl))
  refine ⟨fun j b h => (by rw [hgd] at h; cases h), ?_⟩
  refine specs_call (R := fun v W => ca11S A nn cc b off np cp kk x lo hi2 12 v W) (f := 56) (args := #[.slice A nn cc, .int .i64 x]) (by simp [execOp, hop, go_sem, ev e7, ev e11]) ((k1 W hB).mono ?_)
  rintro e w' ⟨rfl, h3⟩
  exact ⟨_, rfl, rfl, h3⟩
set_option maxHeartbeats 1000000 in
theorem ca11_op13 (haft : ∀ j, (o.after.any fun e => decide (e.on = j) && Region.binds .any e) = true → ca11S A nn cc b off np cp kk x lo hi2 j (a.eval (.tmp (ca11D j))) W) (ho : ca11Reg[13]? = some o) : ca11Ok A nn cc b off np cp kk x lo hi2 Q a W 13 o := by
  have hop := op_at ho (·.op) (x := Op.field 26 (Operand.tmp 63) 1) (by kernel_rfl)
  have hgd := op_at ho (·.guard) (x := none) (by kernel_rfl)
  have e12 : a.eval (.tmp 63) = .agg #[.int .i64 lo, .int .i64 hi2] := haft 12 (op_at ho (fun o => o.after.any fun e => decide (e.on = 12) && Region.binds .any e) (x := true) (by kernel_rfl))
  refine ⟨fun j b h => (by rw [hgd] at h; cases h), ?_⟩
  exact specs_value (R := fun v W => ca11S A nn cc b off np cp kk x lo hi2 13 v W) (v := .int .i64 hi2) (by simp [execOp, hop, go_sem, ev e12, run_field26_1]) rfl (Ext.refl W)
set_option maxHeartbeats 1000000 in
theorem ca11_op14 (haft : ∀ j, (o.after.any fun e => decide (e.on = j) && Region.binds .any e) = true → ca11S A nn cc b off np cp kk x lo hi2 j (a.eval (.tmp (ca11D j))) W) (ho : ca11Reg[14]? = some o) : ca11Ok A nn cc b off np cp kk x lo hi2 Q a W 14 o := by
  have hop := op_at ho (·.op) (x := Op.binOp BinOp.gtr 2 (Operand.tmp 57) (Operand.tmp 64) 2) (by kernel_rfl)
  have hgd := op_at ho (·.guard) (x := none) (by kernel_rfl)
  have e6 : a.eval (.tmp 57) = .int .i64 lo := haft 6 (op_at ho (fun o => o.after.any fun e => decide (e.on = 6) && Region.binds .any e) (x := true) (by kernel_rfl))
  have e13 : a.eval (.tmp 64) = .int .i64 hi2 := haft 13 (op_at ho (fun o => o.after.any fun e => decide (e.on = 13) && Region.binds .any e) (x := true) (by kernel_rfl))
  refine ⟨fun j b h => (by rw [hgd] at h; cases h), ?_⟩
  exact specs_value (R := fun v W => ca11S A nn cc b off np cp kk x lo hi2 14 v W) (v := .bool (decide (hi2 < lo))) (by simp [execOp, hop, go_sem, ev e6, ev e13]) rfl (Ext.refl W)
set_option maxRecDepth 100000 in
set_option maxHeartbeats 4000000 in
/-- Region 11 of function 34. -/
theorem ca11_wp {id : Nat} (hlen : a.tmps.size = 100) (o0 : a.eval (.tmp 0) = .slice A nn cc) (o1 : a.eval (.tmp 1) = .slice (some ⟨b, off, none⟩) np cp) (o6 : a.eval (.tmp 6) = .int .i64 (kk : Int)) (hlp : (kk : Int) < (np : Int)) (cx : ∀ W, Ext V W → W.cell? ⟨b, off + kk, none⟩ = some (.int .i64 x)) (k1 : ∀ W, Ext V W → Calls Tryz.prog 56 #[.slice A nn cc, .int .i64 x] W fun e w' => e = .returned (.agg #[.int .i64 lo, .int .i64 hi2]) ∧ Ext W w') (K : (∀ W, Ext V W → wpList Tryz.prog ca11Reg Q (ca11Reg.toList.drop 15) (puts a [(51, .slice A nn cc), (52, .slice (some ⟨b, off, none⟩) np cp), (53, .int .i64 (kk : Int)), (54, .pointer (some ⟨b, off + kk, none⟩)), (55, .int .i64 x), (56, .agg #[.int .i64 lo, .int .i64 hi2]), (57, .int .i64 lo), (58, .slice A nn cc), (59, .slice (some ⟨b, off, none⟩) np cp), (60, .int .i64 (kk : Int)), (61, .pointer (some ⟨b, off + kk, none⟩)), (62, .int .i64 x), (63, .agg #[.int .i64 lo, .int .i64 hi2]), (64, .int .i64 hi2), (65, .bool (decide (hi2 < lo)))]) W)) : (Code.region id ca11Reg true).wp Tryz.prog Q a V := by
  refine wp_region_specs_free (ops := ca11Reg) 15 (ca11S A nn cc b off np cp kk x lo hi2) (Ext V) (by kernel_rfl) (by rw [hlen]; kernel_rfl) (by kernel_rfl) ⟨rfl, rfl, rfl, Nat.le_refl _, fun _ _ => rfl⟩ (fun _ _ h e => h.trans e) ca11S_ext ca11D (by kernel_rfl) ?_ ?_
  · intro i o hi ho a' W hB hsz hold haft
    match i, hi with
    | 0, _ => exact ca11_op0 ((hold 0 (by kernel_rfl)).trans o0) ho
    | 1, _ => exact ca11_op1 ((hold 1 (by kernel_rfl)).trans o1) ho
    | 2, _ => exact ca11_op2 ((hold 6 (by kernel_rfl)).trans o6) ho
    | 3, _ => exact ca11_op3 hlp haft ho
    | 4, _ => exact ca11_op4 cx hB haft ho
    | 5, _ => exact ca11_op5 k1 hB haft ho
    | 6, _ => exact ca11_op6 haft ho
    | 7, _ => exact ca11_op7 ((hold 0 (by kernel_rfl)).trans o0) ho
    | 8, _ => exact ca11_op8 ((hold 1 (by kernel_rfl)).trans o1) ho
    | 9, _ => exact ca11_op9 ((hold 6 (by kernel_rfl)).trans o6) ho
    | 10, _ => exact ca11_op10 hlp haft ho
    | 11, _ => exact ca11_op11 cx hB haft ho
    | 12, _ => exact ca11_op12 k1 hB haft ho
    | 13, _ => exact ca11_op13 haft ho
    | 14, _ => exact ca11_op14 haft ho
    | m + 15, h => exact absurd h (by omega)
  · intro a1 W hB hsz hdf hold hS
    have hall : ∀ zz, zz ∈ ([(51, .slice A nn cc), (52, .slice (some ⟨b, off, none⟩) np cp), (53, .int .i64 (kk : Int)), (54, .pointer (some ⟨b, off + kk, none⟩)), (55, .int .i64 x), (56, .agg #[.int .i64 lo, .int .i64 hi2]), (57, .int .i64 lo), (58, .slice A nn cc), (59, .slice (some ⟨b, off, none⟩) np cp), (60, .int .i64 (kk : Int)), (61, .pointer (some ⟨b, off + kk, none⟩)), (62, .int .i64 x), (63, .agg #[.int .i64 lo, .int .i64 hi2]), (64, .int .i64 hi2), (65, .bool (decide (hi2 < lo)))] : List (Tmp × Value)) → zz.1 < a.tmps.size ∧ a1.eval (.tmp zz.1) = zz.2 := by
      intro zz hz
      rw [hlen]
      simp only [List.mem_cons, List.not_mem_nil, or_false] at hz
      rcases hz with rfl | rfl | rfl | rfl | rfl | rfl | rfl | rfl | rfl | rfl | rfl | rfl | rfl | rfl | rfl
      · exact ⟨(show (51 : Nat) < 100 by omega), hS 0 (by omega)⟩
      · exact ⟨(show (52 : Nat) < 100 by omega), hS 1 (by omega)⟩
      · exact ⟨(show (53 : Nat) < 100 by omega), hS 2 (by omega)⟩
      · exact ⟨(show (54 : Nat) < 100 by omega), hS 3 (by omega)⟩
      · exact ⟨(show (55 : Nat) < 100 by omega), hS 4 (by omega)⟩
      · exact ⟨(show (56 : Nat) < 100 by omega), hS 5 (by omega)⟩
      · exact ⟨(show (57 : Nat) < 100 by omega), hS 6 (by omega)⟩
      · exact ⟨(show (58 : Nat) < 100 by omega), hS 7 (by omega)⟩
      · exact ⟨(show (59 : Nat) < 100 by omega), hS 8 (by omega)⟩
      · exact ⟨(show (60 : Nat) < 100 by omega), hS 9 (by omega)⟩
      · exact ⟨(show (61 : Nat) < 100 by omega), hS 10 (by omega)⟩
      · exact ⟨(show (62 : Nat) < 100 by omega), hS 11 (by omega)⟩
      · exact ⟨(show (63 : Nat) < 100 by omega), hS 12 (by omega)⟩
      · exact ⟨(show (64 : Nat) < 100 by omega), hS 13 (by omega)⟩
      · exact ⟨(show (65 : Nat) < 100 by omega), hS 14 (by omega)⟩
    have ha := act_puts hsz hdf hall (fun t ht => hold t (all_ne_of (l := [(51, .slice A nn cc), (52, .slice (some ⟨b, off, none⟩) np cp), (53, .int .i64 (kk : Int)), (54, .pointer (some ⟨b, off + kk, none⟩)), (55, .int .i64 x), (56, .agg #[.int .i64 lo, .int .i64 hi2]), (57, .int .i64 lo), (58, .slice A nn cc), (59, .slice (some ⟨b, off, none⟩) np cp), (60, .int .i64 (kk : Int)), (61, .pointer (some ⟨b, off + kk, none⟩)), (62, .int .i64 x), (63, .agg #[.int .i64 lo, .int .i64 hi2]), (64, .int .i64 hi2), (65, .bool (decide (hi2 < lo)))]) (by kernel_rfl) ht))
    rw [ha]
    exact K W  hB 
end

/-- Two variables that a region makes and stores into, while its operations are listed: L. -/
def Box2 (B i1 j1 i2 j2 : Nat) (d1 d2 : Tmp) (t : TypeId) (z f1 f2 : Array Value) (L : Nat → Bool) (a : Act) (W : World) : Prop :=
  ∃ g1 g2, (L i1 = true → a.eval (.tmp d1) = .pointer (some ⟨g1, 0, none⟩) ∧ B ≤ g1 ∧ W.heap[g1]? = some (.cells (if L j1 then f1 else z) t (0, 0))) ∧
    (L i2 = true → a.eval (.tmp d2) = .pointer (some ⟨g2, 0, none⟩) ∧ B ≤ g2 ∧ W.heap[g2]? = some (.cells (if L j2 then f2 else z) t (0, 0))) ∧
    (L i1 = true → L i2 = true → g1 ≠ g2) ∧ (L i1 = false → L j1 = false) ∧ (L i2 = false → L j2 = false)
section
variable {B i1 j1 i2 j2 : Nat} {d1 d2 : Tmp} {t : TypeId} {z f1 f2 : Array Value} {L : Nat → Bool} {a : Act} {W W' : World}
theorem Box2.start : Box2 B i1 j1 i2 j2 d1 d2 t z f1 f2 (fun _ => false) a W := ⟨0, 0, fun h => (by cases h), fun h => (by cases h), fun h => (by cases h), fun _ => rfl, fun _ => rfl⟩
theorem Box2.swap (h : Box2 B i1 j1 i2 j2 d1 d2 t z f1 f2 L a W) : Box2 B i2 j2 i1 j1 d2 d1 t z f2 f1 L a W := by
  obtain ⟨g1, g2, h1, h2, h3, h4, h5⟩ := h
  exact ⟨g2, g1, h2, h1, fun x y e => h3 y x e.symm, h5, h4⟩
theorem Box2.stay (h : Box2 B i1 j1 i2 j2 d1 d2 t z f1 f2 L a W) (e : Below W.heap.size W W') {i : Nat} (n1 : i1 ≠ i) (n2 : i2 ≠ i) (n3 : j1 ≠ i) (n4 : j2 ≠ i) {d : Tmp} (m1 : d1 ≠ d) (m2 : d2 ≠ d) (v : Value) :
    Box2 B i1 j1 i2 j2 d1 d2 t z f1 f2 (fun j => decide (j = i) || L j) (a.put (some d) v) W' := by
  obtain ⟨g1, g2, h1, h2, h3, h4, h5⟩ := h
  refine ⟨g1, g2, ?_, ?_, ?_, ?_, ?_⟩ <;> simp only [n1, n2, n3, n4, decide_false, Bool.false_or]
  · intro h
    obtain ⟨q1, q2, q3⟩ := h1 h
    exact ⟨(eval_put_other m1).trans q1, q2, row_ext q3 e⟩
  · intro h
    obtain ⟨q1, q2, q3⟩ := h2 h
    exact ⟨(eval_put_other m2).trans q1, q2, row_ext q3 e⟩
  · exact h3
  · exact h4
  · exact h5
theorem Box2.alloc (h : Box2 B i1 j1 i2 j2 d1 d2 t z f1 f2 L a W) (hB : B ≤ W.heap.size) (hL : L i1 = false) (n1 : j1 ≠ i1) (n2 : i2 ≠ i1) (n3 : j2 ≠ i1) (m : d2 ≠ d1) (hsz : d1 < a.tmps.size) :
    Box2 B i1 j1 i2 j2 d1 d2 t z f1 f2 (fun j => decide (j = i1) || L j) (a.put (some d1) (.pointer (some ⟨W.heap.size, 0, none⟩))) (W.alloc (.cells z t)) := by
  obtain ⟨g1, g2, h1, h2, h3, h4, h5⟩ := h
  refine ⟨W.heap.size, g2, ?_, ?_, ?_, ?_, ?_⟩ <;> simp only [n1, n2, n3, decide_false, Bool.false_or, decide_true, Bool.true_or]
  · intro _
    refine ⟨eval_put_same hsz, hB, ?_⟩
    rw [h4 hL]
    exact row_last _ _ _ rfl
  · intro h
    obtain ⟨q1, q2, q3⟩ := h2 h
    exact ⟨(eval_put_other m).trans q1, q2, row_alloc _ _ _ _ q3⟩
  · intro _ h e
    obtain ⟨_, _, q3⟩ := h2 h
    have := (Array.getElem?_eq_some_iff.1 q3).1
    omega
  · intro h; cases h
  · exact h5
theorem Box2.at1 (h : Box2 B i1 j1 i2 j2 d1 d2 t z f1 f2 L a W) (hL : L i1 = true) (hj : L j1 = false) : ∃ g, a.eval (.tmp d1) = .pointer (some ⟨g, 0, none⟩) ∧ B ≤ g ∧ W.heap[g]? = some (.cells z t (0, 0)) := by
  obtain ⟨g1, g2, h1, _⟩ := h
  obtain ⟨q1, q2, q3⟩ := h1 hL
  rw [hj] at q3
  exact ⟨g1, q1, q2, q3⟩
theorem Box2.store (h : Box2 B i1 j1 i2 j2 d1 d2 t z f1 f2 L a W) (hL : L i1 = true) {g : Nat} (hg : a.eval (.tmp d1) = .pointer (some ⟨g, 0, none⟩)) (n1 : i1 ≠ j1) (n2 : i2 ≠ j1) (n3 : j2 ≠ j1)
    (hs : ∀ k, k ≠ g → W'.heap[k]? = W.heap[k]?) (hw : W'.heap[g]? = some (.cells f1 t (0, 0))) : Box2 B i1 j1 i2 j2 d1 d2 t z f1 f2 (fun j => decide (j = j1) || L j) a W' := by
  obtain ⟨g1, g2, h1, h2, h3, h4, h5⟩ := h
  obtain ⟨q1, q2, q3⟩ := h1 hL
  rw [hg] at q1
  obtain rfl : g = g1 := by injection q1 with q; injection q with q; injection q
  refine ⟨g, g2, ?_, ?_, ?_, ?_, ?_⟩ <;> simp only [n1, n2, n3, decide_false, Bool.false_or, decide_true, Bool.true_or]
  · exact fun _ => ⟨hg, q2, hw⟩
  · intro h
    obtain ⟨r1, r2, r3⟩ := h2 h
    exact ⟨r1, r2, (hs g2 (fun e => h3 hL h e.symm)).trans r3⟩
  · exact h3
  · intro h; rw [h] at hL; cases hL
  · exact h5
end
theorem set2_other (W : World) (g : Nat) (x y : Value) (k : Nat) (hk : k ≠ g) : ((W.setCell ⟨g, 0, none⟩ x).setCell ⟨g, 1, none⟩ y).heap[k]? = W.heap[k]? := (heap_set_other _ _ _ _ _ hk).trans (heap_set_other _ _ _ _ _ hk)

def ca19D (i : Nat) : Tmp := if i = 0 then 77 else if i = 1 then 78 else if i = 2 then 79 else if i = 3 then 80 else if i = 4 then 81 else if i = 5 then 82 else if i = 6 then 83 else if i = 7 then 84 else if i = 8 then 85 else if i = 9 then 86 else if i = 10 then 87 else if i = 11 then 88 else if i = 12 then 9 else if i = 13 then 10 else if i = 14 then 114 else 115
def ca19V (A : Option Addr) (nn cc b off np cp kk kq : Nat) (x y l1 u1 l2 u2 : Int) (ix : Nat) : Value :=
  match ix with
  | 0 => .slice A nn cc
  | 1 => .slice (some ⟨b, off, none⟩) np cp
  | 2 => .int .i64 (kk : Int)
  | 3 => .pointer (some ⟨b, off + kk, none⟩)
  | 4 => .int .i64 x
  | 5 => .agg #[.int .i64 l1, .int .i64 u1]
  | 6 => .slice A nn cc
  | 7 => .slice (some ⟨b, off, none⟩) np cp
  | 8 => .int .i64 (kq : Int)
  | 9 => .pointer (some ⟨b, off + kq, none⟩)
  | 10 => .int .i64 y
  | 11 => .agg #[.int .i64 l2, .int .i64 u2]
  | _ => undef
def ca19P (i : Nat) : Bool := decide (i ≠ 12) && decide (i ≠ 13) && decide (i ≠ 14) && decide (i ≠ 15)
noncomputable def ca19Reg : Array Oper := (Tryz.f34.body.bind (regionOf · 19)).getD #[]
section
variable {A : Option Addr} {nn cc b off np cp kk kq : Nat} {x y l1 u1 l2 u2 : Int} {Q : Exit → Act → World → Prop} {a : Act} {V W W0 : World} {o : Oper} {L : Nat → Bool}
set_option maxHeartbeats 1000000 in
theorem ca19_op0 (o0 : a.eval (.tmp 0) = .slice A nn cc) (ho : ca19Reg[0]? = some o) : o.wp Tryz.prog a W (fun a'' W' => ∃ v, a'' = a.put o.dst v ∧ v = ca19V A nn cc b off np cp kk kq x y l1 u1 l2 u2 0 ∧ Below W.heap.size W W') Q := by
  have hop := op_at ho (·.op) (x := Op.move (Operand.tmp 0)) (by kernel_rfl)
  exact specs_value (R := fun v _ => v = ca19V A nn cc b off np cp kk kq x y l1 u1 l2 u2 0) (v := .slice A nn cc) (by simp [execOp, hop, go_sem, ev o0]) rfl (Ext.refl W)
set_option maxHeartbeats 1000000 in
theorem ca19_op1 (o1 : a.eval (.tmp 1) = .slice (some ⟨b, off, none⟩) np cp) (ho : ca19Reg[1]? = some o) : o.wp Tryz.prog a W (fun a'' W' => ∃ v, a'' = a.put o.dst v ∧ v = ca19V A nn cc b off np cp kk kq x y l1 u1 l2 u2 1 ∧ Below W.heap.size W W') Q := by
  have hop := op_at ho (·.op) (x := Op.move (Operand.tmp 1)) (by kernel_rfl)
  exact specs_value (R := fun v _ => v = ca19V A nn cc b off np cp kk kq x y l1 u1 l2 u2 1) (v := .slice (some ⟨b, off, none⟩) np cp) (by simp [execOp, hop, go_sem, ev o1]) rfl (Ext.refl W)
set_option maxHeartbeats 1000000 in
theorem ca19_op2 (o7 : a.eval (.tmp 7) = .int .i64 (kk : Int)) (ho : ca19Reg[2]? = some o) : o.wp Tryz.prog a W (fun a'' W' => ∃ v, a'' = a.put o.dst v ∧ v = ca19V A nn cc b off np cp kk kq x y l1 u1 l2 u2 2 ∧ Below W.heap.size W W') Q := by
  have hop := op_at ho (·.op) (x := Op.move (Operand.tmp 7)) (by kernel_rfl)
  exact specs_value (R := fun v _ => v = ca19V A nn cc b off np cp kk kq x y l1 u1 l2 u2 2) (v := .int .i64 (kk : Int)) (by simp [execOp, hop, go_sem, ev o7]) rfl (Ext.refl W)
set_option maxHeartbeats 1000000 in
theorem ca19_op3 (hlp : (kk : Int) < (np : Int)) (haft : ∀ j, (o.after.any fun e => decide (e.on = j) && Region.binds .any e) = true → ca19P j = true → a.eval (.tmp (ca19D j)) = ca19V A nn cc b off np cp kk kq x y l1 u1 l2 u2 j) (ho : ca19Reg[3]? = some o) : o.wp Tryz.prog a W (fun a'' W' => ∃ v, a'' = a.put o.dst v ∧ v = ca19V A nn cc b off np cp kk kq x y l1 u1 l2 u2 3 ∧ Below W.heap.size W W') Q := by
  have hop := op_at ho (·.op) (x := Op.indexAddr 30 (Operand.tmp 78) (Operand.tmp 79)) (by kernel_rfl)
  have e1 : a.eval (.tmp 78) = .slice (some ⟨b, off, none⟩) np cp := haft 1 (op_at ho (fun o => o.after.any fun e => decide (e.on = 1) && Region.binds .any e) (x := true) (by kernel_rfl)) rfl
  have e2 : a.eval (.tmp 79) = .int .i64 (kk : Int) := haft 2 (op_at ho (fun o => o.after.any fun e => decide (e.on = 2) && Region.binds .any e) (x := true) (by kernel_rfl)) rfl
  exact specs_value (R := fun v _ => v = ca19V A nn cc b off np cp kk kq x y l1 u1 l2 u2 3) (v := .pointer (some ⟨b, off + kk, none⟩)) (by simp [execOp, hop, go_sem, ev e1, ev e2, hlp]) rfl (Ext.refl W)
set_option maxHeartbeats 1000000 in
theorem ca19_op4 (cx : ∀ W, Ext V W → W.cell? ⟨b, off + kk, none⟩ = some (.int .i64 x)) (hB : Ext V W) (haft : ∀ j, (o.after.any fun e => decide (e.on = j) && Region.binds .any e) = true → ca19P j = true → a.eval (.tmp (ca19D j)) = ca19V A nn cc b off np cp kk kq x y l1 u1 l2 u2 j) (ho : ca19Reg[4]? = some o) : o.wp Tryz.prog a W (fun a'' W' => ∃ v, a'' = a.put o.dst v ∧ v = ca19V A nn cc b off np cp kk kq x y l1 u1 l2 u2 4 ∧ Below W.heap.size W W') Q := by
  have hop := op_at ho (·.op) (x := Op.load 3 (Operand.tmp 80)) (by kernel_rfl)
  have e3 : a.eval (.tmp 80) = .pointer (some ⟨b, off + kk, none⟩) := haft 3 (op_at ho (fun o => o.after.any fun e => decide (e.on = 3) && Region.binds .any e) (x := true) (by kernel_rfl)) rfl
  have cx' := cx W hB
  exact specs_value (R := fun v _ => v = ca19V A nn cc b off np cp kk kq x y l1 u1 l2 u2 4) (v := .int .i64 x) (by simp [execOp, hop, go_sem, ev e3, cx']) rfl (Ext.refl W)
set_option maxHeartbeats 1000000 in
theorem ca19_op5 (k1 : ∀ W, Ext V W → Calls Tryz.prog 56 #[.slice A nn cc, .int .i64 x] W fun e w' => e = .returned (.agg #[.int .i64 l1, .int .i64 u1]) ∧ Ext W w') (hB : Ext V W) (haft : ∀ j, (o.after.any fun e => decide (e.on = j) && Region.binds .any e) = true → ca19P j = true → a.eval (.tmp (ca19D j)) = ca19V A nn cc b off np cp kk kq x y l1 u1 l2 u2 j) (ho : ca19Reg[5]? = some o) : o.wp Tryz.prog a W (fun a'' W' => ∃ v, a'' = a.put o.dst v ∧ v = ca19V A nn cc b off np cp kk kq x y l1 u1 l2 u2 5 ∧ Below W.heap.size W W') Q := by
  have hop := op_at ho (·.op) (x := Op.call { callee := Callee.value (Operand.func 56), args := #[Operand.tmp 77, Operand.tmp 81], argTypes := #[22, 3] }) (by kernel_rfl)
  have e0 : a.eval (.tmp 77) = .slice A nn cc := haft 0 (op_at ho (fun o => o.after.any fun e => decide (e.on = 0) && Region.binds .any e) (x := true) (by kernel_rfl)) rfl
  have e4 : a.eval (.tmp 81) = .int .i64 x := haft 4 (op_at ho (fun o => o.after.any fun e => decide (e.on = 4) && Region.binds .any e) (x := true) (by kernel_rfl)) rfl
  refine specs_call (R := fun v _ => v = ca19V A nn cc b off np cp kk kq x y l1 u1 l2 u2 5) (f := 56) (args := #[.slice A nn cc, .int .i64 x]) (by simp [execOp, hop, go_sem, ev e0, ev e4]) ((k1 W hB).mono ?_)
  rintro e w' ⟨rfl, h3⟩
  exact ⟨_, rfl, rfl, h3⟩
set_option maxHeartbeats 1000000 in
theorem ca19_op6 (o0 : a.eval (.tmp 0) = .slice A nn cc) (ho : ca19Reg[6]? = some o) : o.wp Tryz.prog a W (fun a'' W' => ∃ v, a'' = a.put o.dst v ∧ v = ca19V A nn cc b off np cp kk kq x y l1 u1 l2 u2 6 ∧ Below W.heap.size W W') Q := by
  have hop := op_at ho (·.op) (x := Op.move (Operand.tmp 0)) (by kernel_rfl)
  exact specs_value (R := fun v _ => v = ca19V A nn cc b off np cp kk kq x y l1 u1 l2 u2 6) (v := .slice A nn cc) (by simp [execOp, hop, go_sem, ev o0]) rfl (Ext.refl W)
set_option maxHeartbeats 1000000 in
theorem ca19_op7 (o1 : a.eval (.tmp 1) = .slice (some ⟨b, off, none⟩) np cp) (ho : ca19Reg[7]? = some o) : o.wp Tryz.prog a W (fun a'' W' => ∃ v, a'' = a.put o.dst v ∧ v = ca19V A nn cc b off np cp kk kq x y l1 u1 l2 u2 7 ∧ Below W.heap.size W W') Q := by
  have hop := op_at ho (·.op) (x := Op.move (Operand.tmp 1)) (by kernel_rfl)
  exact specs_value (R := fun v _ => v = ca19V A nn cc b off np cp kk kq x y l1 u1 l2 u2 7) (v := .slice (some ⟨b, off, none⟩) np cp) (by simp [execOp, hop, go_sem, ev o1]) rfl (Ext.refl W)
set_option maxHeartbeats 1000000 in
theorem ca19_op8 (o8 : a.eval (.tmp 8) = .int .i64 (kq : Int)) (ho : ca19Reg[8]? = some o) : o.wp Tryz.prog a W (fun a'' W' => ∃ v, a'' = a.put o.dst v ∧ v = ca19V A nn cc b off np cp kk kq x y l1 u1 l2 u2 8 ∧ Below W.heap.size W W') Q := by
  have hop := op_at ho (·.op) (x := Op.move (Operand.tmp 8)) (by kernel_rfl)
  exact specs_value (R := fun v _ => v = ca19V A nn cc b off np cp kk kq x y l1 u1 l2 u2 8) (v := .int .i64 (kq : Int)) (by simp [execOp, hop, go_sem, ev o8]) rfl (Ext.refl W)
set_option maxHeartbeats 1000000 in
theorem ca19_op9 (hlq : (kq : Int) < (np : Int)) (haft : ∀ j, (o.after.any fun e => decide (e.on = j) && Region.binds .any e) = true → ca19P j = true → a.eval (.tmp (ca19D j)) = ca19V A nn cc b off np cp kk kq x y l1 u1 l2 u2 j) (ho : ca19Reg[9]? = some o) : o.wp Tryz.prog a W (fun a'' W' => ∃ v, a'' = a.put o.dst v ∧ v = ca19V A nn cc b off np cp kk kq x y l1 u1 l2 u2 9 ∧ Below W.heap.size W W') Q := by
  have hop := op_at ho (·.op) (x := Op.indexAddr 30 (Operand.tmp 84) (Operand.tmp 85)) (by kernel_rfl)
  have e7 : a.eval (.tmp 84) = .slice (some ⟨b, off, none⟩) np cp := haft 7 (op_at ho (fun o => o.after.any fun e => decide (e.on = 7) && Region.binds .any e) (x := true) (by kernel_rfl)) rfl
  have e8 : a.eval (.tmp 85) = .int .i64 (kq : Int) := haft 8 (op_at ho (fun o => o.after.any fun e => decide (e.on = 8) && Region.binds .any e) (x := true) (by kernel_rfl)) rfl
  exact specs_value (R := fun v _ => v = ca19V A nn cc b off np cp kk kq x y l1 u1 l2 u2 9) (v := .pointer (some ⟨b, off + kq, none⟩)) (by simp [execOp, hop, go_sem, ev e7, ev e8, hlq]) rfl (Ext.refl W)
set_option maxHeartbeats 1000000 in
theorem ca19_op10 (cy : ∀ W, Ext V W → W.cell? ⟨b, off + kq, none⟩ = some (.int .i64 y)) (hB : Ext V W) (haft : ∀ j, (o.after.any fun e => decide (e.on = j) && Region.binds .any e) = true → ca19P j = true → a.eval (.tmp (ca19D j)) = ca19V A nn cc b off np cp kk kq x y l1 u1 l2 u2 j) (ho : ca19Reg[10]? = some o) : o.wp Tryz.prog a W (fun a'' W' => ∃ v, a'' = a.put o.dst v ∧ v = ca19V A nn cc b off np cp kk kq x y l1 u1 l2 u2 10 ∧ Below W.heap.size W W') Q := by
  have hop := op_at ho (·.op) (x := Op.load 3 (Operand.tmp 86)) (by kernel_rfl)
  have e9 : a.eval (.tmp 86) = .pointer (some ⟨b, off + kq, none⟩) := haft 9 (op_at ho (fun o => o.after.any fun e => decide (e.on = 9) && Region.binds .any e) (x := true) (by kernel_rfl)) rfl
  have cy' := cy W hB
  exact specs_value (R := fun v _ => v = ca19V A nn cc b off np cp kk kq x y l1 u1 l2 u2 10) (v := .int .i64 y) (by simp [execOp, hop, go_sem, ev e9, cy']) rfl (Ext.refl W)
set_option maxHeartbeats 1000000 in
theorem ca19_op11 (k2 : ∀ W, Ext V W → Calls Tryz.prog 56 #[.slice A nn cc, .int .i64 y] W fun e w' => e = .returned (.agg #[.int .i64 l2, .int .i64 u2]) ∧ Ext W w') (hB : Ext V W) (haft : ∀ j, (o.after.any fun e => decide (e.on = j) && Region.binds .any e) = true → ca19P j = true → a.eval (.tmp (ca19D j)) = ca19V A nn cc b off np cp kk kq x y l1 u1 l2 u2 j) (ho : ca19Reg[11]? = some o) : o.wp Tryz.prog a W (fun a'' W' => ∃ v, a'' = a.put o.dst v ∧ v = ca19V A nn cc b off np cp kk kq x y l1 u1 l2 u2 11 ∧ Below W.heap.size W W') Q := by
  have hop := op_at ho (·.op) (x := Op.call { callee := Callee.value (Operand.func 56), args := #[Operand.tmp 83, Operand.tmp 87], argTypes := #[22, 3] }) (by kernel_rfl)
  have e6 : a.eval (.tmp 83) = .slice A nn cc := haft 6 (op_at ho (fun o => o.after.any fun e => decide (e.on = 6) && Region.binds .any e) (x := true) (by kernel_rfl)) rfl
  have e10 : a.eval (.tmp 87) = .int .i64 y := haft 10 (op_at ho (fun o => o.after.any fun e => decide (e.on = 10) && Region.binds .any e) (x := true) (by kernel_rfl)) rfl
  refine specs_call (R := fun v _ => v = ca19V A nn cc b off np cp kk kq x y l1 u1 l2 u2 11) (f := 56) (args := #[.slice A nn cc, .int .i64 y]) (by simp [execOp, hop, go_sem, ev e6, ev e10]) ((k2 W hB).mono ?_)
  rintro e w' ⟨rfl, h3⟩
  exact ⟨_, rfl, rfl, h3⟩
theorem ca19_op12 (hM : Box2 W0.heap.size 12 14 13 15 9 10 26 #[.int .i64 0, .int .i64 0] #[.int .i64 l1, .int .i64 u1] #[.int .i64 l2, .int .i64 u2] L a W) (hE : Ext W0 W) (ha : a.tmps.size = 100) (hL : L 12 = false) (ho : ca19Reg[12]? = some o) : o.wp Tryz.prog a W (fun a'' W' => ∃ v, a'' = a.put o.dst v ∧ Ext W0 W' ∧ Box2 W0.heap.size 12 14 13 15 9 10 26 #[.int .i64 0, .int .i64 0] #[.int .i64 l1, .int .i64 u1] #[.int .i64 l2, .int .i64 u2] (fun j => decide (j = 12) || L j) a'' W') Q := by
  have hop := op_at ho (·.op) (x := Op.alloc 26) (by kernel_rfl)
  have hd := op_at ho (·.dst) (x := some 9) (by kernel_rfl)
  have hr : (execOp a.eval o).run Tryz.prog W = .ok (.value (.pointer (some ⟨W.heap.size, 0, none⟩))) (W.alloc (.cells #[.int .i64 0, .int .i64 0] 26)) := by simp [execOp, hop, go_sem]
  unfold Oper.wp
  rw [hr]
  refine ⟨_, rfl, hE.trans (ext_alloc _ _), ?_⟩
  rw [hd]
  exact (Box2.alloc hM hE.size hL (by decide) (by decide) (by decide) (by decide) (by rw [ha]; decide))
theorem ca19_op13 (hM : Box2 W0.heap.size 12 14 13 15 9 10 26 #[.int .i64 0, .int .i64 0] #[.int .i64 l1, .int .i64 u1] #[.int .i64 l2, .int .i64 u2] L a W) (hE : Ext W0 W) (ha : a.tmps.size = 100) (hL : L 13 = false) (ho : ca19Reg[13]? = some o) : o.wp Tryz.prog a W (fun a'' W' => ∃ v, a'' = a.put o.dst v ∧ Ext W0 W' ∧ Box2 W0.heap.size 12 14 13 15 9 10 26 #[.int .i64 0, .int .i64 0] #[.int .i64 l1, .int .i64 u1] #[.int .i64 l2, .int .i64 u2] (fun j => decide (j = 13) || L j) a'' W') Q := by
  have hop := op_at ho (·.op) (x := Op.alloc 26) (by kernel_rfl)
  have hd := op_at ho (·.dst) (x := some 10) (by kernel_rfl)
  have hr : (execOp a.eval o).run Tryz.prog W = .ok (.value (.pointer (some ⟨W.heap.size, 0, none⟩))) (W.alloc (.cells #[.int .i64 0, .int .i64 0] 26)) := by simp [execOp, hop, go_sem]
  unfold Oper.wp
  rw [hr]
  refine ⟨_, rfl, hE.trans (ext_alloc _ _), ?_⟩
  rw [hd]
  exact (Box2.alloc hM.swap hE.size hL (by decide) (by decide) (by decide) (by decide) (by rw [ha]; decide)).swap
set_option maxHeartbeats 1000000 in
theorem ca19_op14 (hM : Box2 W0.heap.size 12 14 13 15 9 10 26 #[.int .i64 0, .int .i64 0] #[.int .i64 l1, .int .i64 u1] #[.int .i64 l2, .int .i64 u2] L a W) (hE : Ext W0 W) (hL : L 14 = false) (haft : ∀ j, (o.after.any fun e => decide (e.on = j) && Region.binds .any e) = true → L j = true ∧ (ca19P j = true → a.eval (.tmp (ca19D j)) = ca19V A nn cc b off np cp kk kq x y l1 u1 l2 u2 j)) (ho : ca19Reg[14]? = some o) : o.wp Tryz.prog a W (fun a'' W' => ∃ v, a'' = a.put o.dst v ∧ Ext W0 W' ∧ Box2 W0.heap.size 12 14 13 15 9 10 26 #[.int .i64 0, .int .i64 0] #[.int .i64 l1, .int .i64 u1] #[.int .i64 l2, .int .i64 u2] (fun j => decide (j = 14) || L j) a'' W') Q := by
  have hop := op_at ho (·.op) (x := Op.store 26 (Operand.tmp 9) (Operand.tmp 82)) (by kernel_rfl)
  have hd := op_at ho (·.dst) (x := none) (by kernel_rfl)
  have hLi : L 12 = true := (haft 12 (op_at ho (fun o => o.after.any fun e => decide (e.on = 12) && Region.binds .any e) (x := true) (by kernel_rfl))).1
  have ev1 : a.eval (.tmp 82) = .agg #[.int .i64 l1, .int .i64 u1] := (haft 5 (op_at ho (fun o => o.after.any fun e => decide (e.on = 5) && Region.binds .any e) (x := true) (by kernel_rfl))).2 rfl
  obtain ⟨g, hg, hBg, hrow⟩ := hM.at1 hLi hL
  have fz0 : W.frozen? ⟨g, 0, none⟩ = false := by simp [World.frozen?, hrow]
  have fz1 : ∀ x, (W.setCell ⟨g, 0, none⟩ x).frozen? ⟨g, 1, none⟩ = false := fun x => by simp [World.frozen?, World.setCell, Array.getElem?_modify, hrow]
  have cl0 : W.cell? ⟨g, 0, none⟩ = some (.int .i64 0) := cell_of_row _ _ _ _ _ _ hrow
  have cl1 : ∀ x, (W.setCell ⟨g, 0, none⟩ x).cell? ⟨g, 1, none⟩ = some (.int .i64 0) := fun x => cell_of_row _ _ _ _ _ _ (row_setCell W g 0 x _ 26 _ hrow)
  have hr : (execOp a.eval o).run Tryz.prog W = .ok .skip ((W.setCell ⟨g, 0, none⟩ (.int .i64 l1)).setCell ⟨g, 1, none⟩ (.int .i64 u1)) := by simp [execOp, hop, go_sem, ev hg, ev ev1, fz0, fz1, cl0, cl1]
  unfold Oper.wp
  rw [hr]
  refine ⟨undef, rfl, (hE.setCell (p := ⟨g, 0, none⟩) hBg _).setCell (p := ⟨g, 1, none⟩) hBg _, ?_⟩
  rw [hd]
  exact (Box2.store hM hLi hg (by decide) (by decide) (by decide) (fun k hk => set2_other _ _ _ _ k hk) (set2_row _ _ _ _ _ _ _ hrow))
set_option maxHeartbeats 1000000 in
theorem ca19_op15 (hM : Box2 W0.heap.size 12 14 13 15 9 10 26 #[.int .i64 0, .int .i64 0] #[.int .i64 l1, .int .i64 u1] #[.int .i64 l2, .int .i64 u2] L a W) (hE : Ext W0 W) (hL : L 15 = false) (haft : ∀ j, (o.after.any fun e => decide (e.on = j) && Region.binds .any e) = true → L j = true ∧ (ca19P j = true → a.eval (.tmp (ca19D j)) = ca19V A nn cc b off np cp kk kq x y l1 u1 l2 u2 j)) (ho : ca19Reg[15]? = some o) : o.wp Tryz.prog a W (fun a'' W' => ∃ v, a'' = a.put o.dst v ∧ Ext W0 W' ∧ Box2 W0.heap.size 12 14 13 15 9 10 26 #[.int .i64 0, .int .i64 0] #[.int .i64 l1, .int .i64 u1] #[.int .i64 l2, .int .i64 u2] (fun j => decide (j = 15) || L j) a'' W') Q := by
  have hop := op_at ho (·.op) (x := Op.store 26 (Operand.tmp 10) (Operand.tmp 88)) (by kernel_rfl)
  have hd := op_at ho (·.dst) (x := none) (by kernel_rfl)
  have hLi : L 13 = true := (haft 13 (op_at ho (fun o => o.after.any fun e => decide (e.on = 13) && Region.binds .any e) (x := true) (by kernel_rfl))).1
  have ev1 : a.eval (.tmp 88) = .agg #[.int .i64 l2, .int .i64 u2] := (haft 11 (op_at ho (fun o => o.after.any fun e => decide (e.on = 11) && Region.binds .any e) (x := true) (by kernel_rfl))).2 rfl
  obtain ⟨g, hg, hBg, hrow⟩ := hM.swap.at1 hLi hL
  have fz0 : W.frozen? ⟨g, 0, none⟩ = false := by simp [World.frozen?, hrow]
  have fz1 : ∀ x, (W.setCell ⟨g, 0, none⟩ x).frozen? ⟨g, 1, none⟩ = false := fun x => by simp [World.frozen?, World.setCell, Array.getElem?_modify, hrow]
  have cl0 : W.cell? ⟨g, 0, none⟩ = some (.int .i64 0) := cell_of_row _ _ _ _ _ _ hrow
  have cl1 : ∀ x, (W.setCell ⟨g, 0, none⟩ x).cell? ⟨g, 1, none⟩ = some (.int .i64 0) := fun x => cell_of_row _ _ _ _ _ _ (row_setCell W g 0 x _ 26 _ hrow)
  have hr : (execOp a.eval o).run Tryz.prog W = .ok .skip ((W.setCell ⟨g, 0, none⟩ (.int .i64 l2)).setCell ⟨g, 1, none⟩ (.int .i64 u2)) := by simp [execOp, hop, go_sem, ev hg, ev ev1, fz0, fz1, cl0, cl1]
  unfold Oper.wp
  rw [hr]
  refine ⟨undef, rfl, (hE.setCell (p := ⟨g, 0, none⟩) hBg _).setCell (p := ⟨g, 1, none⟩) hBg _, ?_⟩
  rw [hd]
  exact (Box2.store hM.swap hLi hg (by decide) (by decide) (by decide) (fun k hk => set2_other _ _ _ _ k hk) (set2_row _ _ _ _ _ _ _ hrow)).swap
theorem ca19_size : ca19Reg.size = 16 := by kernel_rfl
set_option maxRecDepth 100000 in
set_option maxHeartbeats 4000000 in
/-- Region 19 of function 34. -/
theorem ca19_wp {id : Nat} (hlen : a.tmps.size = 100) (o0 : a.eval (.tmp 0) = .slice A nn cc) (o1 : a.eval (.tmp 1) = .slice (some ⟨b, off, none⟩) np cp) (o7 : a.eval (.tmp 7) = .int .i64 (kk : Int)) (o8 : a.eval (.tmp 8) = .int .i64 (kq : Int)) (hlp : (kk : Int) < (np : Int)) (cx : ∀ W, Ext V W → W.cell? ⟨b, off + kk, none⟩ = some (.int .i64 x)) (k1 : ∀ W, Ext V W → Calls Tryz.prog 56 #[.slice A nn cc, .int .i64 x] W fun e w' => e = .returned (.agg #[.int .i64 l1, .int .i64 u1]) ∧ Ext W w') (hlq : (kq : Int) < (np : Int)) (cy : ∀ W, Ext V W → W.cell? ⟨b, off + kq, none⟩ = some (.int .i64 y)) (k2 : ∀ W, Ext V W → Calls Tryz.prog 56 #[.slice A nn cc, .int .i64 y] W fun e w' => e = .returned (.agg #[.int .i64 l2, .int .i64 u2]) ∧ Ext W w')
    (K : ∀ (W : World) (g1 g2 : Nat), Ext V W → V.heap.size ≤ g1 → V.heap.size ≤ g2 → g1 ≠ g2 → W.heap[g1]? = some (.cells #[.int .i64 l1, .int .i64 u1] 26 (0, 0)) → W.heap[g2]? = some (.cells #[.int .i64 l2, .int .i64 u2] 26 (0, 0)) → Q .normal (puts a [(77, .slice A nn cc), (78, .slice (some ⟨b, off, none⟩) np cp), (79, .int .i64 (kk : Int)), (80, .pointer (some ⟨b, off + kk, none⟩)), (81, .int .i64 x), (82, .agg #[.int .i64 l1, .int .i64 u1]), (83, .slice A nn cc), (84, .slice (some ⟨b, off, none⟩) np cp), (85, .int .i64 (kq : Int)), (86, .pointer (some ⟨b, off + kq, none⟩)), (87, .int .i64 y), (88, .agg #[.int .i64 l2, .int .i64 u2]), (9, .pointer (some ⟨g1, 0, none⟩)), (10, .pointer (some ⟨g2, 0, none⟩))]) W) : (Code.region id ca19Reg true).wp Tryz.prog Q a V := by
  have hsize := ca19_size
  refine wp_region_mem (W0 := V) ca19P (ca19V A nn cc b off np cp kk kq x y l1 u1 l2 u2) ca19D (Box2 V.heap.size 12 14 13 15 9 10 26 #[.int .i64 0, .int .i64 0] #[.int .i64 l1, .int .i64 u1] #[.int .i64 l2, .int .i64 u2]) (by kernel_rfl) (by rw [hlen]; kernel_rfl) (⟨rfl, rfl, rfl, Nat.le_refl _, fun _ _ => rfl⟩ : Below V.heap.size V { V with drawn := V.drawn + 1 }) Box2.start ?_ ?_ ?_ ?_
  · intro L a' W W' i v hi hp hM _ e hsz
    rw [hsize] at hi
    refine Box2.stay hM e (fun h => ?_) (fun h => ?_) (fun h => ?_) (fun h => ?_) (fun h => ?_) (fun h => ?_) v
    all_goals first
      | (subst h; revert hp; decide)
      | (revert hp h; revert i; decide)
  · intro i o ho hp a' W hB hsz hold haft
    have hi : i < 16 := by
      have h1 := (Array.getElem?_eq_some_iff.1 ho).1
      omega
    match i, hi with
    | 0, _ => exact ca19_op0 ((hold 0 (by rw [hsize]; kernel_rfl)).trans o0) ho
    | 1, _ => exact ca19_op1 ((hold 1 (by rw [hsize]; kernel_rfl)).trans o1) ho
    | 2, _ => exact ca19_op2 ((hold 7 (by rw [hsize]; kernel_rfl)).trans o7) ho
    | 3, _ => exact ca19_op3 hlp haft ho
    | 4, _ => exact ca19_op4 cx hB haft ho
    | 5, _ => exact ca19_op5 k1 hB haft ho
    | 6, _ => exact ca19_op6 ((hold 0 (by rw [hsize]; kernel_rfl)).trans o0) ho
    | 7, _ => exact ca19_op7 ((hold 1 (by rw [hsize]; kernel_rfl)).trans o1) ho
    | 8, _ => exact ca19_op8 ((hold 8 (by rw [hsize]; kernel_rfl)).trans o8) ho
    | 9, _ => exact ca19_op9 hlq haft ho
    | 10, _ => exact ca19_op10 cy hB haft ho
    | 11, _ => exact ca19_op11 k2 hB haft ho
    | 12, _ => exact absurd hp (by decide)
    | 13, _ => exact absurd hp (by decide)
    | 14, _ => exact absurd hp (by decide)
    | 15, _ => exact absurd hp (by decide)
    | m + 16, h => exact absurd h (by omega)
  · intro i o ho hp L a' W hE hsz hold haft hL hM
    have hi : i < 16 := by
      have h1 := (Array.getElem?_eq_some_iff.1 ho).1
      omega
    match i, hi with
    | 12, _ => exact ca19_op12 hM hE (hsz.trans hlen) hL ho
    | 13, _ => exact ca19_op13 hM hE (hsz.trans hlen) hL ho
    | 14, _ => exact ca19_op14 hM hE hL haft ho
    | 15, _ => exact ca19_op15 hM hE hL haft ho
    | 0, _ => exact absurd hp (by decide)
    | 1, _ => exact absurd hp (by decide)
    | 2, _ => exact absurd hp (by decide)
    | 3, _ => exact absurd hp (by decide)
    | 4, _ => exact absurd hp (by decide)
    | 5, _ => exact absurd hp (by decide)
    | 6, _ => exact absurd hp (by decide)
    | 7, _ => exact absurd hp (by decide)
    | 8, _ => exact absurd hp (by decide)
    | 9, _ => exact absurd hp (by decide)
    | 10, _ => exact absurd hp (by decide)
    | 11, _ => exact absurd hp (by decide)
    | m + 16, h => exact absurd h (by omega)
  · intro a1 W hE hsz hdf hold hS hM
    rw [hsize] at hold hS hM
    obtain ⟨g1, g2, h1, h2, h3, _, _⟩ := hM
    obtain ⟨pa1, qa1, ra1⟩ := h1 (by decide)
    obtain ⟨pa2, qa2, ra2⟩ := h2 (by decide)
    have hne := h3 (by decide) (by decide)
    rw [if_pos (by decide)] at ra1 ra2
    have hall : ∀ z, z ∈ ([(77, .slice A nn cc), (78, .slice (some ⟨b, off, none⟩) np cp), (79, .int .i64 (kk : Int)), (80, .pointer (some ⟨b, off + kk, none⟩)), (81, .int .i64 x), (82, .agg #[.int .i64 l1, .int .i64 u1]), (83, .slice A nn cc), (84, .slice (some ⟨b, off, none⟩) np cp), (85, .int .i64 (kq : Int)), (86, .pointer (some ⟨b, off + kq, none⟩)), (87, .int .i64 y), (88, .agg #[.int .i64 l2, .int .i64 u2]), (9, .pointer (some ⟨g1, 0, none⟩)), (10, .pointer (some ⟨g2, 0, none⟩))] : List (Tmp × Value)) → z.1 < a.tmps.size ∧ a1.eval (.tmp z.1) = z.2 := by
      intro z hz
      rw [hlen]
      simp only [List.mem_cons, List.not_mem_nil, or_false] at hz
      rcases hz with rfl | rfl | rfl | rfl | rfl | rfl | rfl | rfl | rfl | rfl | rfl | rfl | rfl | rfl
      · exact ⟨(show (77 : Nat) < 100 by omega), hS 0 (by omega) (by decide)⟩
      · exact ⟨(show (78 : Nat) < 100 by omega), hS 1 (by omega) (by decide)⟩
      · exact ⟨(show (79 : Nat) < 100 by omega), hS 2 (by omega) (by decide)⟩
      · exact ⟨(show (80 : Nat) < 100 by omega), hS 3 (by omega) (by decide)⟩
      · exact ⟨(show (81 : Nat) < 100 by omega), hS 4 (by omega) (by decide)⟩
      · exact ⟨(show (82 : Nat) < 100 by omega), hS 5 (by omega) (by decide)⟩
      · exact ⟨(show (83 : Nat) < 100 by omega), hS 6 (by omega) (by decide)⟩
      · exact ⟨(show (84 : Nat) < 100 by omega), hS 7 (by omega) (by decide)⟩
      · exact ⟨(show (85 : Nat) < 100 by omega), hS 8 (by omega) (by decide)⟩
      · exact ⟨(show (86 : Nat) < 100 by omega), hS 9 (by omega) (by decide)⟩
      · exact ⟨(show (87 : Nat) < 100 by omega), hS 10 (by omega) (by decide)⟩
      · exact ⟨(show (88 : Nat) < 100 by omega), hS 11 (by omega) (by decide)⟩
      · exact ⟨(show (9 : Nat) < 100 by omega), pa1⟩
      · exact ⟨(show (10 : Nat) < 100 by omega), pa2⟩
    have ha := act_puts hsz hdf hall (fun t ht => by
      by_cases hz1 : t = 114
      · subst hz1
        simp [Act.eval, hsz, hlen]
      by_cases hz2 : t = 115
      · subst hz2
        simp [Act.eval, hsz, hlen]
      refine hold t (all_ne_of (l := [(77, undef), (78, undef), (79, undef), (80, undef), (81, undef), (82, undef), (83, undef), (84, undef), (85, undef), (86, undef), (87, undef), (88, undef), (9, undef), (10, undef), (114, undef), (115, undef)]) (by rfl) ?_)
      intro hmem
      simp only [List.map_cons, List.map_nil, List.mem_cons, List.not_mem_nil, or_false] at hmem
      rcases hmem with rfl | rfl | rfl | rfl | rfl | rfl | rfl | rfl | rfl | rfl | rfl | rfl | rfl | rfl | rfl | rfl <;> first | exact hz1 rfl | exact hz2 rfl | exact ht (by simp))
    rw [ha]
    exact K W g1 g2 hE qa1 qa2 hne ra1 ra2
end
end Go.Proofs.YtmlmnljbegcjcaaGreat

/- Orders are apart just if no two of them have births in common. -/
namespace Go.Proofs.YtmlmnljbegcjcaaGreat
open Go.RowKit Go.Shelf

/-- Two orders have births in common. -/
def meetB (o p : Odr) : Prop := max (bLo o) (bLo p) ≤ min (bHi o) (bHi p)
theorem meet_iff {o p : Odr} (ho : hasB o = true) (hp : hasB p = true) : meetB o p ↔ ∃ x, doneB x o = true ∧ doneB x p = true := by
  unfold meetB
  simp only [doneB_iff]
  unfold hasB at ho hp
  rw [decide_eq_true_eq] at ho hp
  constructor
  · intro h
    refine ⟨max (bLo o) (bLo p), ?_⟩
    omega
  · rintro ⟨x, h1, h2⟩
    omega
theorem few_pairs {α : Type} (p : α → Bool) : ∀ l : List α, (l.filter p).length ≤ 1 ↔ l.Pairwise fun a b => ¬ (p a = true ∧ p b = true)
  | [] => by simp
  | a :: l => by
    rw [List.pairwise_cons, ← few_pairs p l]
    cases h : p a
    · simp [h]
    · rw [List.filter_cons, if_pos h]
      constructor
      · intro h2
        have h3 : l.filter p = [] := List.eq_nil_of_length_eq_zero (by simp at h2; simpa using h2)
        refine ⟨fun b hb hh => ?_, by rw [h3]; simp⟩
        have : b ∈ l.filter p := List.mem_filter.2 ⟨hb, hh.2⟩
        rw [h3] at this; cases this
      · rintro ⟨h2, _⟩
        have h3 : l.filter p = [] := List.filter_eq_nil_iff.2 fun b hb hh => h2 b hb ⟨rfl, hh⟩
        rw [h3]; simp
theorem apart_pairs {os : List Odr} {xs : List Int} (hx : ∀ x, x ∈ xs → isOrd os.length x = true) (hh : ∀ x, x ∈ xs → hasAt os x = true) :
    apartOk os xs = true ↔ xs.Pairwise fun a b => ¬ meetB (oAt os b.toNat) (oAt os a.toNat) := by
  have hlt : ∀ x, x ∈ xs → x.toNat < os.length := fun x h => by
    have := hx x h
    simp only [isOrd, Bool.and_eq_true, decide_eq_true_eq] at this
    omega
  unfold apartOk hitsOf
  rw [List.all_eq_true]
  simp only [decide_eq_true_eq, few_pairs]
  constructor
  · intro h
    rw [List.pairwise_iff_getElem]
    intro i j hi hj hij hm
    have h1 := List.getElem_mem (l := xs) hi
    have h2 := List.getElem_mem (l := xs) hj
    obtain ⟨x, d2, d1⟩ := (meet_iff (hh _ h2) (hh _ h1)).1 hm
    obtain ⟨e, he, hall⟩ := to_ends ⟨_, oAt_mem (hlt _ h1), d1⟩
    have := List.pairwise_iff_getElem.1 (h e he) i j hi hj hij
    rw [does_at, does_at, decide_eq_true (hlt _ h1), decide_eq_true (hlt _ h2), hall _ (oAt_mem (hlt _ h1)) d1, hall _ (oAt_mem (hlt _ h2)) d2] at this
    exact this ⟨rfl, rfl⟩
  · intro h e _
    refine List.Pairwise.imp_of_mem (fun {a b} ha hb hn hd => ?_) h
    rw [does_at, does_at, decide_eq_true (hlt _ ha), decide_eq_true (hlt _ hb), Bool.true_and, Bool.true_and] at hd
    exact hn ((meet_iff (hh _ hb) (hh _ ha)).2 ⟨e, hd.2, hd.1⟩)
end Go.Proofs.YtmlmnljbegcjcaaGreat

/- The reference: CheckApart. -/
namespace Go.Proofs.YtmlmnljbegcjcaaGreat
open Go.RowKit Go.Shelf
attribute [local irreducible] bitCells

set_option maxRecDepth 100000 in
set_option maxHeartbeats 4000000 in
theorem refApart_err {A : Option Addr} {n c : Nat} {os : List Odr} {w : World} (h : IsOrders w A n c os) (hF : ordersErr os ≠ 0) (A' : Option Addr) (n' c' : Nat) :
    Calls Tryz.prog 34 #[.slice A n c, .slice A' n' c'] w fun e w' => e = .returned (.int .i64 (ordersErr os)) ∧ Ext w w' := by
  have h21 := fun W (hW : Ext w W) => refCheck_any (h.ext hW)
  obtain ⟨E, hE⟩ : ∃ E, ordersErr os = E := ⟨_, rfl⟩
  rw [hE] at hF ⊢
  simp only [hE] at h21
  have heb : (E != 0) = true := by simp [hF]
  have h0 := h21 w (Ext.refl w)
  have H21 := Lib.hid h21
  clear h hE h21
  go_enter Tryz.func34, Tryz.ntmps34
  go_wp2_with fail
  refine h0.mono ?_
  rintro e w1 ⟨rfl, e1⟩
  have HE1 := Lib.hid e1
  have h1 := H21.out w1 e1
  clear e1 h0
  go_wp2_with fail
  refine h1.mono ?_
  rintro e w2 ⟨rfl, e2⟩
  have HE2 := Lib.hid (HE1.out.trans e2)
  clear e2 h1
  go_wp2
  go_ret
  exact ⟨rfl, HE2.out⟩
theorem cell_lt {W : World} {p : Addr} {v : Value} (h : W.cell? p = some v) : p.block < W.heap.size := by
  unfold World.cell? at h
  split at h
  · rename_i e; exact (Array.getElem?_eq_some_iff.1 e).1
  · cases h
set_option maxRecDepth 100000 in
set_option maxHeartbeats 8000000 in
theorem refApart_ok {A : Option Addr} {n c : Nat} {os : List Odr} {w : World} (h : IsOrders w A n c os) (hok0 : ordersErr os = 0) (A' : Option Addr) (n' c' : Nat) (xs : List Int) (hn' : n' = xs.length) (hm' : n' ≤ 1000000) (hh : Held w w.heap.size 1 encI A' xs) :
    Calls Tryz.prog 34 #[.slice A n c, .slice A' n' c'] w fun e w' => e = .returned (.int .i64 (checkApartErr os xs)) ∧ Ext w w' := by
  have hok := orders_ok hok0
  have h21 := refCheck_any h
  rw [hok0] at h21
  have h56 := fun W (hW : Ext w W) k hkl => birthsOf_any (h.ext hW) hok.2 k hkl
  have h55 := fun W x => refIsOrder_any A n c x W
  obtain ⟨Z, hZ⟩ : ∃ Z, checkApartErr os xs = Z := ⟨_, rfl⟩
  have hz : Z = if xs.Pairwise (· < ·) ∧ xs.all (isOrd os.length) = true then if xs.all (hasAt os) = true then if apartOk os xs = true then 0 else 14 else 22 else 3 := by
    rw [← hZ]; unfold checkApartErr; rw [if_pos hok0]
  rw [hZ]
  have hr1 : ∀ k (hk : k < xs.length), ¬ (isOrd os.length xs[k] = true ∧ ∀ (_ : 0 < k), xs[k - 1] < xs[k]) → Z = 3 := fun k hk hb => by
    rw [hz, if_neg fun hy => hb ⟨List.all_eq_true.1 hy.2 _ (List.getElem_mem hk), fun h0 => List.pairwise_iff_getElem.1 hy.1 (k - 1) k (by omega) hk (by omega)⟩]
  have hr2 : (∀ k (hk : k < xs.length), isOrd os.length xs[k] = true ∧ ∀ (_ : 0 < k), xs[k - 1] < xs[k]) → ∀ k (hk : k < xs.length), ¬ hasAt os xs[k] = true → Z = 22 := fun ha k hk hb => by
    rw [hz, if_pos ⟨pair_next fun j hj h0 => (ha j hj).2 h0, List.all_eq_true.2 fun x hx => by
      obtain ⟨j, hj, rfl⟩ := List.getElem_of_mem hx; exact (ha j hj).1⟩, if_neg fun hy => hb (List.all_eq_true.1 hy _ (List.getElem_mem hk))]
  have hr3 : (∀ k (hk : k < xs.length), isOrd os.length xs[k] = true ∧ ∀ (_ : 0 < k), xs[k - 1] < xs[k]) → (∀ k (hk : k < xs.length), hasAt os xs[k] = true) → ∀ i j (hi : i < xs.length) (hj : j < xs.length), j < i → meetB (oAt os xs[i].toNat) (oAt os xs[j].toNat) → Z = 14 := fun ha hb i j hi hj hji hm => by
    have h1 : ∀ x, x ∈ xs → isOrd os.length x = true := fun x hx => by obtain ⟨j, hj, rfl⟩ := List.getElem_of_mem hx; exact (ha j hj).1
    have h2 : ∀ x, x ∈ xs → hasAt os x = true := fun x hx => by obtain ⟨j, hj, rfl⟩ := List.getElem_of_mem hx; exact hb j hj
    rw [hz, if_pos ⟨pair_next fun j hj h0 => (ha j hj).2 h0, List.all_eq_true.2 h1⟩, if_pos (List.all_eq_true.2 h2), if_neg fun hy => List.pairwise_iff_getElem.1 ((apart_pairs h1 h2).1 hy) j i hj hi hji hm]
  have hr4 : (∀ k (hk : k < xs.length), isOrd os.length xs[k] = true ∧ ∀ (_ : 0 < k), xs[k - 1] < xs[k]) → (∀ k (hk : k < xs.length), hasAt os xs[k] = true) → (∀ i j (hi : i < xs.length) (hj : j < xs.length), j < i → ¬ meetB (oAt os xs[i].toNat) (oAt os xs[j].toNat)) → Z = 0 := fun ha hb hc => by
    have h1 : ∀ x, x ∈ xs → isOrd os.length x = true := fun x hx => by obtain ⟨j, hj, rfl⟩ := List.getElem_of_mem hx; exact (ha j hj).1
    have h2 : ∀ x, x ∈ xs → hasAt os x = true := fun x hx => by obtain ⟨j, hj, rfl⟩ := List.getElem_of_mem hx; exact hb j hj
    rw [hz, if_pos ⟨pair_next fun j hj h0 => (ha j hj).2 h0, List.all_eq_true.2 h1⟩, if_pos (List.all_eq_true.2 h2), if_pos ((apart_pairs h1 h2).2 (List.pairwise_iff_getElem.2 fun i j hi hj hij => hc j i hj hi hij))]
  have HN := Lib.hid (And.intro h.len hn')
  have HZ := Lib.hid (And.intro hr1 (And.intro hr2 (And.intro hr3 hr4)))
  have HH := Lib.hid hh
  have H56 := Lib.hid h56
  have H55 := Lib.hid h55
  have HG := Lib.hid (fun W (hW : Ext w W) k (hk : k < xs.length) => int_get (hh.ext hW) hk)
  clear hok0 hok hZ hz hr1 hr2 hr3 hr4 hn' hh h56 h55 h
  go_enter Tryz.func34, Tryz.ntmps34
  go_wp2_with (refine h21.mono ?_; rintro e w1 ⟨rfl, e1⟩; have HE1 := Lib.hid e1; clear e1 h21)
  go_loopw [5] (fun i wr => ∃ k : Nat, k ≤ n' ∧ i = .int .i64 k ∧ Hid (Ext w wr) ∧ Hid (∀ j (hj : j < xs.length), j < k → isOrd os.length xs[j] = true ∧ ∀ (_ : 0 < j), xs[j - 1] < xs[j])) (fun i _ => n' - (intOf i).toNat)
  case atStart => exact ⟨0, Nat.zero_le _, rfl, HE1, Lib.hid fun j _ h => absurd h (by omega)⟩
  case round =>
    obtain ⟨k, hk, rfl, hE, hA⟩ := hrel
    clear HE1
    by_cases hlt : k < n'
    · have hltp : (k : Int) < (n' : Int) := by omega
      have hkx : k < xs.length := by rw [← HN.out.2]; exact hlt
      obtain ⟨b, off, rfl, hc⟩ := HG.out wr hE.out k hkx
      have hbl := cell_lt hc
      have h55 := fun W (_ : Ext wr W) => (H55.out W xs[k])
      have hbad := HZ.out.1 k hkx
      obtain ⟨v, hv⟩ : ∃ v, xs[k] = v := ⟨_, rfl⟩
      simp only [hv] at h55 hbad hc
      rw [HN.out.1] at h55
      obtain ⟨q, hq⟩ : ∃ q, isOrd os.length v = q := ⟨_, rfl⟩
      simp only [hq] at h55 hbad
      have H55k : Hid (∀ W, Ext wr W → Calls Tryz.prog 55 #[.slice A n c, .int .i64 v] W fun e w' => e = .returned (.bool q) ∧ Ext W w') := Lib.hid fun W hW => by
        rw [HN.out.1]
        exact (h55 W hW).mono fun e w' he => ⟨he.1, he.2 ▸ Ext.refl _⟩
      have HCX : Hid (∀ W, Ext wr W → W.cell? ⟨b, off + k, none⟩ = some (.int .i64 v)) := Lib.hid fun W hW => (Below.cell hW (p := ⟨b, off + k, none⟩) hbl).trans hc
      have HBAD := Lib.hid hbad
      have HQ := Lib.hid (And.intro hq hv)
      clear h55 hbad hq hv hc hbl
      cases q with
      | false =>
        obtain rfl : Z = 3 := HBAD.out fun h => by cases h.1
        go_upto_region 6 with fail
        refine caA_wp (A := A) (nn := n) (cc := c) (b := b) (off := off) (np := n') (cp := c') (kk := k) (x := v) rfl rfl rfl rfl hltp HCX.out H55k.out ?_
        intro W1 e1
        have HE1 := Lib.hid (hE.out.trans e1)
        simp only [puts, List.foldl_cons, List.foldl_nil, Act.put, List.setIfInBounds_toArray, List.set_cons_succ, List.set_cons_zero]
        clear e1
        go_wp2
        go_ret
        exact ⟨rfl, HE1.out⟩
      | true =>
        by_cases h3 : k = 0
        · go_upto_region 6 with fail
          refine caB_wp (A := A) (nn := n) (cc := c) (b := b) (off := off) (np := n') (cp := c') (kk := k) (x := v) rfl rfl rfl rfl hltp HCX.out H55k.out h3 ?_
          intro W1 e1
          have HE1 := Lib.hid (hE.out.trans e1)
          have HG2 : Hid (∀ j (hj : j < xs.length), j < k + 1 → isOrd os.length xs[j] = true ∧ ∀ (_ : 0 < j), xs[j - 1] < xs[j]) := Lib.hid fun j hj hjk => by
            obtain rfl : j = k := by omega
            exact ⟨by rw [HQ.out.2]; exact HQ.out.1, fun h0 => by omega⟩
          simp only [puts, List.foldl_cons, List.foldl_nil, Act.put, List.setIfInBounds_toArray, List.set_cons_succ, List.set_cons_zero]
          clear e1 h3
          go_wp2
          go_roundw
          case measure => simp [intOf]; omega
          case rel => exact ⟨k + 1, by omega, by go_num, HE1, HG2⟩
        · have hq1 : k - 1 < xs.length := by omega
          obtain ⟨b9, off9, hA9, hcy⟩ := HG.out wr hE.out (k - 1) hq1
          injection hA9 with hA9; injection hA9 with hA9 hA9'
          subst hA9 hA9'
          have hbl := cell_lt hcy
          have hwq : IntKind.i64.wrap ((k : Int) - 1) = ((k - 1 : Nat) : Int) := (IntWalk.i64_in _ (by omega)).trans (by omega)
          have hlq : ((k - 1 : Nat) : Int) < (n' : Int) := by omega
          have h3' : 0 < k := by omega
          have hbad := HBAD.out
          have hgood : xs[k - 1] < xs[k] → ∀ j (hj : j < xs.length), j < k + 1 → isOrd os.length xs[j] = true ∧ ∀ (_ : 0 < j), xs[j - 1] < xs[j] := fun hlt j hj hjk => by
            by_cases e : j = k
            · subst e
              exact ⟨by rw [HQ.out.2]; exact HQ.out.1, fun _ => hlt⟩
            · exact hA.out j hj (by omega)
          rw [HQ.out.2] at hgood
          obtain ⟨y, hy⟩ : ∃ y, xs[k - 1] = y := ⟨_, rfl⟩
          simp only [hy] at hbad hgood hcy
          obtain ⟨kq, hkq⟩ : ∃ kq, k - 1 = kq := ⟨_, rfl⟩
          rw [hkq] at hcy hwq hlq
          have HCY : Hid (∀ W, Ext wr W → W.cell? ⟨b, off + kq, none⟩ = some (.int .i64 y)) := Lib.hid fun W hW => (Below.cell hW (p := ⟨b, off + kq, none⟩) hbl).trans hcy
          have HGB := Lib.hid (And.intro hbad hgood)
          clear hbad hgood hcy hy hkq hq1 HBAD hbl
          by_cases h4 : y < v
          · have HG2 := Lib.hid (HGB.out.2 h4)
            go_upto_region 6 with fail
            refine caC_wp (A := A) (nn := n) (cc := c) (b := b) (off := off) (np := n') (cp := c') (kk := k) (kq := kq) (x := v) (y := y) rfl rfl rfl rfl hltp HCX.out H55k.out h3' hwq hlq HCY.out ?_
            intro W1 e1
            have HE1 := Lib.hid (hE.out.trans e1)
            simp only [puts, List.foldl_cons, List.foldl_nil, Act.put, List.setIfInBounds_toArray, List.set_cons_succ, List.set_cons_zero]
            rw [decide_eq_false (by omega : ¬ v ≤ y)]
            clear e1 hwq hlq h3 h3' HGB
            go_wp2
            go_roundw
            case measure => simp [intOf]; omega
            case rel => exact ⟨k + 1, by omega, by go_num, HE1, HG2⟩
          · obtain rfl : Z = 3 := HGB.out.1 (fun hno => h4 (hno.2 h3'))
            go_upto_region 6 with fail
            refine caC_wp (A := A) (nn := n) (cc := c) (b := b) (off := off) (np := n') (cp := c') (kk := k) (kq := kq) (x := v) (y := y) rfl rfl rfl rfl hltp HCX.out H55k.out h3' hwq hlq HCY.out ?_
            intro W1 e1
            have HE1 := Lib.hid (hE.out.trans e1)
            simp only [puts, List.foldl_cons, List.foldl_nil, Act.put, List.setIfInBounds_toArray, List.set_cons_succ, List.set_cons_zero]
            rw [decide_eq_true (by omega : v ≤ y)]
            clear e1 hwq hlq h3 h3' HGB
            go_wp2
            go_ret
            exact ⟨rfl, HE1.out⟩
    · have hltp : ¬ (k : Int) < (n' : Int) := by omega
      have HA1 : Hid (∀ j (hj : j < xs.length), isOrd os.length xs[j] = true ∧ ∀ (_ : 0 < j), xs[j - 1] < xs[j]) := Lib.hid fun j hj => hA.out j hj (by have := HN.out.2; omega)
      clear hA
      go_wp2
      go_loopw [6] (fun i wr => ∃ k : Nat, k ≤ n' ∧ i = .int .i64 k ∧ Hid (Ext w wr) ∧ Hid (∀ j (hj : j < xs.length), j < k → hasAt os xs[j] = true)) (fun i _ => n' - (intOf i).toNat)
      case atStart => exact ⟨0, Nat.zero_le _, rfl, hE, Lib.hid fun j _ h => absurd h (by omega)⟩
      case round =>
        obtain ⟨k2, hk2, rfl, hE, hA⟩ := hrel
        by_cases hlt2 : k2 < n'
        · have hltp2 : (k2 : Int) < (n' : Int) := by omega
          have hkx : k2 < xs.length := by rw [← HN.out.2]; exact hlt2
          obtain ⟨b, off, rfl, hc⟩ := HG.out wr hE.out k2 hkx
          have hbl := cell_lt hc
          have hord := (HA1.out k2 hkx).1
          have hbad := HZ.out.2.1 HA1.out k2 hkx
          have hhas : ∀ m : Nat, xs[k2] = (m : Int) → (hasAt os xs[k2] = hasB (oAt os m)) := fun m hm => by unfold hasAt; rw [hm]; rfl
          obtain ⟨m, hm⟩ : ∃ m : Nat, xs[k2] = (m : Int) := ⟨xs[k2].toNat, by
            simp only [isOrd, Bool.and_eq_true, decide_eq_true_eq] at hord
            omega⟩
          have hml : m < os.length := by
            rw [hm] at hord
            simp only [isOrd, Bool.and_eq_true, decide_eq_true_eq] at hord
            omega
          have hh := hhas m hm
          rw [oAt_get hml] at hh
          rw [hh] at hbad
          rw [hm] at hc
          have h56 := fun W (hW : Ext w W) => H56.out W hW m hml
          have hhb : hasB os[m] = decide (bLo os[m] ≤ bHi os[m]) := rfl
          rw [hhb] at hbad hh
          obtain ⟨lo, hlo⟩ : ∃ lo, bLo os[m] = lo := ⟨_, rfl⟩
          obtain ⟨hi2, hhi⟩ : ∃ hi2, bHi os[m] = hi2 := ⟨_, rfl⟩
          simp only [hlo, hhi] at h56 hbad hh
          have H56k : Hid (∀ W, Ext wr W → Calls Tryz.prog 56 #[.slice A n c, .int .i64 (m : Int)] W fun e w' => e = .returned (.agg #[.int .i64 lo, .int .i64 hi2]) ∧ Ext W w') := Lib.hid fun W hW => h56 W (hE.out.trans hW)
          have HCX : Hid (∀ W, Ext wr W → W.cell? ⟨b, off + k2, none⟩ = some (.int .i64 (m : Int))) := Lib.hid fun W hW => (Below.cell hW (p := ⟨b, off + k2, none⟩) hbl).trans hc
          have HB2 := Lib.hid (And.intro hbad hh)
          clear hord hbad hhas hm hh hc h56 hhb hlo hhi hbl
          by_cases h4 : hi2 < lo
          · obtain rfl : Z = 22 := HB2.out.1 (by simp; omega)
            go_upto_region 11 with fail
            refine ca11_wp (A := A) (nn := n) (cc := c) (b := b) (off := off) (np := n') (cp := c') (kk := k2) (x := (m : Int)) (lo := lo) (hi2 := hi2) rfl rfl rfl rfl hltp2 HCX.out H56k.out ?_
            intro W1 e1
            have HE1 := Lib.hid (hE.out.trans e1)
            have hs11 : ca11Reg.size = 15 := by kernel_rfl
            have hdr : ca11Reg.toList.drop 15 = [] := List.drop_eq_nil_of_le (by simp [hs11])
            rw [hdr]
            simp only [puts, List.foldl_cons, List.foldl_nil, Act.put, List.setIfInBounds_toArray, List.set_cons_succ, List.set_cons_zero]
            rw [decide_eq_true h4]
            clear e1 hdr hs11
            go_wp2
            go_ret
            exact ⟨rfl, HE1.out⟩
          · have HG2 : Hid (∀ j (hj : j < xs.length), j < k2 + 1 → hasAt os xs[j] = true) := Lib.hid fun j hj hjk => by
              by_cases e : j = k2
              · subst e; rw [HB2.out.2]; simp; omega
              · exact hA.out j hj (by omega)
            go_upto_region 11 with fail
            refine ca11_wp (A := A) (nn := n) (cc := c) (b := b) (off := off) (np := n') (cp := c') (kk := k2) (x := (m : Int)) (lo := lo) (hi2 := hi2) rfl rfl rfl rfl hltp2 HCX.out H56k.out ?_
            intro W1 e1
            have HE1 := Lib.hid (hE.out.trans e1)
            have hs11 : ca11Reg.size = 15 := by kernel_rfl
            have hdr : ca11Reg.toList.drop 15 = [] := List.drop_eq_nil_of_le (by simp [hs11])
            rw [hdr]
            simp only [puts, List.foldl_cons, List.foldl_nil, Act.put, List.setIfInBounds_toArray, List.set_cons_succ, List.set_cons_zero]
            rw [decide_eq_false h4]
            clear e1 hdr hs11 HB2
            go_wp2
            go_roundw
            case measure => simp [intOf]; omega
            case rel => exact ⟨k2 + 1, by omega, by go_num, HE1, HG2⟩
        · have hltp2 : ¬ (k2 : Int) < (n' : Int) := by omega
          have HA2 : Hid (∀ j (hj : j < xs.length), hasAt os xs[j] = true) := Lib.hid fun j hj => hA.out j hj (by have := HN.out.2; omega)
          clear hA
          go_wp2
          go_loopw [7] (fun i wr => ∃ i' : Nat, i' ≤ n' ∧ i = .int .i64 i' ∧ Hid (Ext w wr) ∧ Hid (∀ i j (hi : i < xs.length) (hj : j < xs.length), i < i' → j < i → ¬ meetB (oAt os xs[i].toNat) (oAt os xs[j].toNat))) (fun i _ => n' - (intOf i).toNat)
          case atStart => exact ⟨0, Nat.zero_le _, rfl, hE, Lib.hid fun i j _ _ h => absurd h (by omega)⟩
          case round =>
            obtain ⟨i, hi, rfl, hE, hA⟩ := hrel
            by_cases hlt3 : i < n'
            · have hltp3 : (i : Int) < (n' : Int) := by omega
              have hix : i < xs.length := by rw [← HN.out.2]; exact hlt3
              go_wp2
              go_loopw [8] (fun j wr => ∃ j' : Nat, j' ≤ i ∧ j = .int .i64 j' ∧ Hid (Ext w wr) ∧ Hid (∀ j (hj : j < xs.length), j < j' → ¬ meetB (oAt os xs[i].toNat) (oAt os xs[j].toNat))) (fun j _ => i - (intOf j).toNat)
              case atStart => exact ⟨0, Nat.zero_le _, rfl, hE, Lib.hid fun j _ h => absurd h (by omega)⟩
              case round =>
                obtain ⟨j, hj, rfl, hE2, hA3⟩ := hrel
                by_cases hlt4 : j < i
                · have hltp4 : (j : Int) < (i : Int) := by omega
                  have hjp : (j : Int) < (n' : Int) := by omega
                  have hjx : j < xs.length := by omega
                  obtain ⟨b, off, rfl, hcx⟩ := HG.out wr hE2.out i hix
                  obtain ⟨b9, off9, hA9, hcy⟩ := HG.out wr hE2.out j hjx
                  injection hA9 with hA9; injection hA9 with hA9 hA9'
                  subst hA9 hA9'
                  have hbl := cell_lt hcx
                  have hoi := (HA1.out i hix).1
                  have hoj := (HA1.out j hjx).1
                  simp only [isOrd, Bool.and_eq_true, decide_eq_true_eq] at hoi hoj
                  obtain ⟨p, hp⟩ : ∃ p : Nat, xs[i] = (p : Int) := ⟨xs[i].toNat, by omega⟩
                  obtain ⟨q, hq⟩ : ∃ q : Nat, xs[j] = (q : Int) := ⟨xs[j].toNat, by omega⟩
                  have hpl : p < os.length := by omega
                  have hql : q < os.length := by omega
                  have hmt : meetB (oAt os xs[i].toNat) (oAt os xs[j].toNat) ↔ max (bLo os[p]) (bLo os[q]) ≤ min (bHi os[p]) (bHi os[q]) := by
                    rw [hp, hq, Int.toNat_natCast, Int.toNat_natCast, oAt_get hpl, oAt_get hql]; rfl
                  rw [hp] at hcx
                  rw [hq] at hcy
                  have h1 := fun W (hW : Ext wr W) => H56.out W (hE2.out.trans hW) p hpl
                  have h2 := fun W (hW : Ext wr W) => H56.out W (hE2.out.trans hW) q hql
                  obtain ⟨l1, hl1⟩ : ∃ l1, bLo os[p] = l1 := ⟨_, rfl⟩
                  obtain ⟨u1, hu1⟩ : ∃ u1, bHi os[p] = u1 := ⟨_, rfl⟩
                  obtain ⟨l2, hl2⟩ : ∃ l2, bLo os[q] = l2 := ⟨_, rfl⟩
                  obtain ⟨u2, hu2⟩ : ∃ u2, bHi os[q] = u2 := ⟨_, rfl⟩
                  simp only [hl1, hu1] at h1
                  simp only [hl2, hu2] at h2
                  rw [hl1, hl2, hu1, hu2] at hmt
                  have HCX : Hid (∀ W, Ext wr W → W.cell? ⟨b, off + i, none⟩ = some (.int .i64 (p : Int))) := Lib.hid fun W hW => (Below.cell hW (p := ⟨b, off + i, none⟩) hbl).trans hcx
                  have HCY : Hid (∀ W, Ext wr W → W.cell? ⟨b, off + j, none⟩ = some (.int .i64 (q : Int))) := Lib.hid fun W hW => (Below.cell hW (p := ⟨b, off + j, none⟩) hbl).trans hcy
                  have HMT := Lib.hid hmt
                  have H1 := Lib.hid h1
                  have H2 := Lib.hid h2
                  clear hmt h1 h2 hl1 hu1 hl2 hu2 hp hq hoi hoj hcx hcy hbl
                  go_upto_region 19 with fail
                  refine ca19_wp (A := A) (nn := n) (cc := c) (b := b) (off := off) (np := n') (cp := c') (kk := i) (kq := j) (x := (p : Int)) (y := (q : Int)) (l1 := l1) (u1 := u1) (l2 := l2) (u2 := u2) rfl rfl rfl rfl rfl hltp3 HCX.out H1.out hjp HCY.out H2.out ?_
                  intro W1 g1 g2 e1 hg1 hg2 hgn hr1 hr2
                  have HE1 := Lib.hid (hE2.out.trans e1)
                  simp only [puts, List.foldl_cons, List.foldl_nil, Act.put, List.setIfInBounds_toArray, List.set_cons_succ, List.set_cons_zero]
                  have d0 : W1.cell? ⟨g1, 0, none⟩ = some (.int .i64 l1) := cell_of_row _ _ _ _ _ _ hr1
                  have d1 : W1.cell? ⟨g1, 1, none⟩ = some (.int .i64 u1) := cell_of_row _ _ _ _ _ _ hr1
                  have d2 : W1.cell? ⟨g2, 0, none⟩ = some (.int .i64 l2) := cell_of_row _ _ _ _ _ _ hr2
                  have d3 : W1.cell? ⟨g2, 1, none⟩ = some (.int .i64 u2) := cell_of_row _ _ _ _ _ _ hr2
                  clear e1 hg1 hg2 hgn hr1 hr2
                  have hmt := HMT.out
                  obtain ⟨mx, hmx⟩ : ∃ mx, max l1 l2 = mx := ⟨_, rfl⟩
                  obtain ⟨mn, hmn⟩ : ∃ mn, min u1 u2 = mn := ⟨_, rfl⟩
                  rw [hmx, hmn] at hmt
                  replace HMT := Lib.hid hmt
                  clear hmt
                  by_cases h4 : mx ≤ mn
                  · obtain rfl : Z = 14 := HZ.out.2.2.1 HA1.out HA2.out i j hix hjx hlt4 (HMT.out.2 h4)
                    go_wp2
                    go_ret
                    exact ⟨rfl, HE1.out⟩
                  · have HG3 : Hid (∀ z (hz : z < xs.length), z < j + 1 → ¬ meetB (oAt os xs[i].toNat) (oAt os xs[z].toNat)) := Lib.hid fun z hz hzj => by
                      by_cases e : z = j
                      · subst e; exact fun h => h4 (HMT.out.1 h)
                      · exact hA3.out z hz (by omega)
                    clear HMT
                    go_wp2
                    go_roundw
                    case measure => simp [intOf]; omega
                    case rel => exact ⟨j + 1, by omega, by go_num, HE1, HG3⟩
                · have hltp4 : ¬ (j : Int) < (i : Int) := by omega
                  obtain rfl : j = i := by omega
                  have HG4 : Hid (∀ a z (ha : a < xs.length) (hz : z < xs.length), a < j + 1 → z < a → ¬ meetB (oAt os xs[a].toNat) (oAt os xs[z].toNat)) := Lib.hid fun a z ha hz h1 h2 => by
                    by_cases e : a = j
                    · subst e; exact hA3.out z hz h2
                    · exact hA.out a z ha hz (by omega) h2
                  clear hA3 hA
                  go_wp2
                  go_roundw
                  case measure => simp [intOf]; omega
                  case rel => exact ⟨j + 1, by omega, by go_num, hE2, HG4⟩
            · have hltp3 : ¬ (i : Int) < (n' : Int) := by omega
              obtain rfl : Z = 0 := HZ.out.2.2.2 HA1.out HA2.out fun a z ha hz h => hA.out a z ha hz (by have := HN.out.2; omega) h
              clear hA
              go_wp2
              go_ret
              exact ⟨rfl, hE.out⟩
theorem refApart_any {A : Option Addr} {n c : Nat} {os : List Odr} {w : World} (h : IsOrders w A n c os) (A' : Option Addr) (n' c' : Nat) (xs : List Int) (hn' : n' = xs.length) (hm' : n' ≤ 1000000) (hh : Held w w.heap.size 1 encI A' xs) :
    Calls Tryz.prog 34 #[.slice A n c, .slice A' n' c'] w fun e w' => e = .returned (.int .i64 (checkApartErr os xs)) ∧ Ext w w' := by
  by_cases h0 : ordersErr os = 0
  · exact refApart_ok h h0 A' n' c' xs hn' hm' hh
  · have : checkApartErr os xs = ordersErr os := by unfold checkApartErr; rw [if_neg h0]
    rw [this]
    exact refApart_err h h0 A' n' c'
end Go.Proofs.YtmlmnljbegcjcaaGreat

/- The orders that are returned as apart are, and as many as there are fewest baths. -/
namespace Go.Proofs.YtmlmnljbegcjcaaGreat
open Go.RowKit Go.Shelf

theorem meet_comm {o p : Odr} : meetB o p ↔ meetB p o := by
  unfold meetB
  rw [Int.max_comm, Int.min_comm]
theorem apart_len {os : List Odr} (h : wholeErr os = 0) : (apartB os).length = (bestB os).length := by
  obtain ⟨_, hW⟩ := whole_ok h
  unfold apartB bestB
  rw [if_pos h, if_pos h, ordI_len, ← dues_few hW, List.length_map]
  unfold dueI dues
  rw [List.length_map]
theorem apartErr_zero {os : List Odr} {xs : List Int} : checkApartErr os xs = 0 ↔ ordersErr os = 0 ∧ (xs.Pairwise (· < ·) ∧ xs.all (isOrd os.length) = true) ∧ xs.all (hasAt os) = true ∧ apartOk os xs = true := by
  unfold checkApartErr
  by_cases h0 : ordersErr os = 0
  · rw [if_pos h0]
    by_cases h1 : xs.Pairwise (· < ·) ∧ xs.all (isOrd os.length) = true
    · rw [if_pos h1]
      by_cases h2 : xs.all (hasAt os) = true
      · rw [if_pos h2]
        by_cases h3 : apartOk os xs = true
        · rw [if_pos h3]; exact ⟨fun _ => ⟨h0, h1, h2, h3⟩, fun _ => rfl⟩
        · rw [if_neg h3]; exact ⟨fun h => (by cases h), fun h => absurd h.2.2.2 h3⟩
      · rw [if_neg h2]; exact ⟨fun h => (by cases h), fun h => absurd h.2.2.1 h2⟩
    · rw [if_neg h1]; exact ⟨fun h => (by cases h), fun h => absurd h.2.1 h1⟩
  · rw [if_neg h0]; exact ⟨fun h => absurd h h0, fun h => absurd h.1 h0⟩
theorem apart_is {os : List Odr} (h : wholeErr os = 0) : checkApartErr os (apartB os) = 0 := by
  obtain ⟨h0, hW⟩ := whole_ok h
  have hB : ∀ i, i < os.length → noBits i = false → hasB (oAt os i) = true := fun i hi _ => hW _ (oAt_mem hi)
  have hap : apartB os = ordI (dueI os noBits) := by unfold apartB; rw [if_pos h]
  have hmem : ∀ x, x ∈ apartB os → ∃ k : Nat, x = (k : Int) ∧ k ∈ dueGo os os.length noBits := fun x hx => by
    rw [hap, mem_ordI] at hx
    obtain ⟨k, hk, rfl⟩ := List.mem_map.1 hx
    exact ⟨k, rfl, hk⟩
  obtain ⟨ha, hn⟩ := due_apart os.length noBits hB
  have hperm : (apartB os).Perm (dueI os noBits) := by rw [hap]; exact List.mergeSort_perm _ _
  have hnd : (apartB os).Nodup := hperm.nodup_iff.2 (by
    unfold dueI
    exact List.pairwise_map.2 (List.Pairwise.imp (fun {a b} hne he => hne (by omega)) hn))
  have hle : (apartB os).Pairwise (· ≤ ·) := by rw [hap]; exact ordI_le _
  have hlt : (apartB os).Pairwise (· < ·) := List.Pairwise.imp₂ (fun a b h1 h2 => by omega) hle hnd
  have hio : ∀ x, x ∈ apartB os → isOrd os.length x = true := fun x hx => by
    obtain ⟨k, rfl, hk⟩ := hmem x hx
    have := (due_mem os.length noBits hB k hk).1
    simp [isOrd]; omega
  have hih : ∀ x, x ∈ apartB os → hasAt os x = true := fun x hx => by
    obtain ⟨k, rfl, hk⟩ := hmem x hx
    have := (due_mem os.length noBits hB k hk).1
    unfold hasAt
    rw [Int.toNat_natCast]
    exact hW _ (oAt_mem this)
  refine apartErr_zero.2 ⟨h0, ⟨hlt, List.all_eq_true.2 hio⟩, List.all_eq_true.2 hih, (apart_pairs hio hih).2 ?_⟩
  have hp : (dueI os noBits).Pairwise fun a b => ¬ meetB (oAt os b.toNat) (oAt os a.toNat) := by
    unfold dueI
    refine List.pairwise_map.2 ?_
    unfold Apart at ha
    refine List.Pairwise.imp_of_mem (fun {a b} hma hmb hab hm => ?_) (List.pairwise_map.1 ha)
    simp only [Int.toNat_natCast] at hm
    obtain ⟨x, d1, d2⟩ := (meet_iff (hW _ (oAt_mem (due_mem os.length noBits hB b hmb).1)) (hW _ (oAt_mem (due_mem os.length noBits hB a hma).1))).1 hm
    exact hab x ⟨d2, d1⟩
  exact (hperm.pairwise_iff (fun {a b} hab hm => hab (meet_comm.1 hm))).2 hp
end Go.Proofs.YtmlmnljbegcjcaaGreat
