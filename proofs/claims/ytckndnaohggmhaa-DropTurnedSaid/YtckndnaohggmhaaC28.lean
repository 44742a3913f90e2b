/- Texts of the package drop, joined: RefBeside, RefBesideAns. -/
import Derived.Test.YtckndnaohggmhaaC27
/- The reference's Beside. -/
namespace Go.Proofs.Ytckndnaohggmhaa
open Go.RowKit Go.Shelf

/-- The spot of the k-th drop. -/
def spotAt (ds : List (Int × Int × Int)) (k : Nat) : Int := (ds.getD k (0, 0, 0)).1
/-- The kind of two different drops, as the reference has it. -/
def besideR (Wd : Int) (ss : List (Int × Int)) (ds : List (Int × Int × Int)) (mn mx k l : Nat) : Int :=
  if spotAt ds k = spotAt ds l then if (List.range mx).all (fun i => !(decide (mn < i) && decide (spotAt ds i = spotAt ds k))) then 2 else 0
  else if firstB ds k && firstB ds l then kindOf Wd ss (sizes ds) (spotAt ds k) (spotAt ds l) else 0

section
variable {w : World} {Wd : Int} {A : Option Addr} {n c : Nat} {A' : Option Addr} {n' c' : Nat} {ss : List (Int × Int)} {ds : List (Int × Int × Int)}

theorem spot_lt (h0 : bathErr Wd ss ds = 0) {k : Nat} (hk : k < ds.length) : 0 ≤ spotAt ds k ∧ spotAt ds k < ss.length := by
  have h1 := List.all_eq_true.1 (bath_ok h0).2.2.2.2 ds[k] (List.getElem_mem hk)
  simp only [dropOk, Bool.and_eq_true, decide_eq_true_eq] at h1
  have e : spotAt ds k = ds[k].1 := by simp [spotAt, List.getElem?_eq_getElem hk]
  rw [e]
  exact ⟨h1.1.1.1, h1.1.1.2⟩

theorem firstB_findIdx {k : Nat} (hk : k < ds.length) : firstB ds k = true ↔ (ds.findIdx fun d => decide (d.1 = spotAt ds k)) = k := by
  have e : ∀ j, j < ds.length → spotAt ds j = (ds.getD j (0, 0, 0)).1 := fun _ _ => rfl
  unfold firstB
  rw [List.all_eq_true]
  constructor
  · intro h
    refine findIdx_hit _ ds k hk (fun j hj => ?_) ?_
    · have := h j (List.mem_range.2 hj)
      have hjl : j < ds.length := by omega
      simpa [spotAt, List.getElem?_eq_getElem hjl] using this
    · simp [spotAt, List.getElem?_eq_getElem hk]
  · intro h j hj
    have hjk := List.mem_range.1 hj
    have hjl : j < ds.length := by omega
    have := List.not_of_lt_findIdx (p := fun d => decide (d.1 = spotAt ds k)) (xs := ds) (i := j) (by rw [h]; exact hjk)
    simpa [spotAt, List.getElem?_eq_getElem hjl] using this

theorem besideR_kind {mn mx : Nat} (hlt : mn < mx) (hmx : mx < ds.length) : besideR Wd ss ds mn mx mn mx = besideKind Wd ss ds mn mx := by
  unfold besideR besideKind
  show (if spotAt ds mn = spotAt ds mx then _ else _) = (if spotAt ds mn = spotAt ds mx then _ else _)
  by_cases hs : spotAt ds mn = spotAt ds mx
  · rw [if_pos hs, if_pos hs]
    have key : ((List.range mx).all fun i => !(decide (mn < i) && decide (spotAt ds i = spotAt ds mn))) = true ↔ ((mn : Int) + 1 + ((ds.drop (mn + 1)).findIdx fun d => decide (d.1 = (ds.getD mn (0, 0, 0)).1)) = mx) := by
      have hl : mx - (mn + 1) < (ds.drop (mn + 1)).length := by rw [List.length_drop]; omega
      have hgm : (ds.drop (mn + 1))[mx - (mn + 1)] = ds[mx] := by rw [List.getElem_drop]; congr 1; omega
      rw [List.all_eq_true]
      constructor
      · intro h
        have := findIdx_hit (fun d : Int × Int × Int => decide (d.1 = (ds.getD mn (0, 0, 0)).1)) (ds.drop (mn + 1)) (mx - (mn + 1)) hl (fun j hj => ?_) ?_
        · rw [this]
          omega
        · rw [List.getElem_drop]
          have h1 := h (mn + 1 + j) (List.mem_range.2 (by omega))
          have hjl : mn + 1 + j < ds.length := by omega
          have h2 : mn < mn + 1 + j := by omega
          simpa [h2, spotAt, List.getElem?_eq_getElem hjl] using h1
        · rw [hgm]
          have h3 : spotAt ds mx = ds[mx].1 := by simp [spotAt, List.getElem?_eq_getElem hmx]
          rw [← h3, ← hs]
          simp [spotAt]
      · intro h i hi
        have him := List.mem_range.1 hi
        by_cases hmi : mn < i
        · have hil : i < ds.length := by omega
          have hj : i - (mn + 1) < (ds.drop (mn + 1)).findIdx fun d => decide (d.1 = (ds.getD mn (0, 0, 0)).1) := by omega
          have := List.not_of_lt_findIdx hj
          rw [List.getElem_drop] at this
          have e : mn + 1 + (i - (mn + 1)) = i := by omega
          simp only [e] at this
          have h4 : spotAt ds i = ds[i].1 := by simp [spotAt, List.getElem?_eq_getElem hil]
          simp only [hmi, decide_true, Bool.true_and, h4]
          simpa [spotAt] using this
        · simp [hmi]
    by_cases hk : ((List.range mx).all fun i => !(decide (mn < i) && decide (spotAt ds i = spotAt ds mn))) = true
    · rw [if_pos hk, if_pos (key.1 hk)]
    · rw [if_neg hk, if_neg (fun h => hk (key.2 h))]
  · rw [if_neg hs, if_neg hs]
    have f1 := firstB_findIdx (ds := ds) (k := mn) (by omega)
    have f2 := firstB_findIdx (ds := ds) (k := mx) hmx
    by_cases hf : (firstB ds mn && firstB ds mx) = true
    · rw [if_pos hf]
      rw [Bool.and_eq_true] at hf
      rw [if_pos ⟨by show ((ds.findIdx fun d => decide (d.1 = spotAt ds mn) : Nat) : Int) = (mn : Int); rw [f1.1 hf.1], by show ((ds.findIdx fun d => decide (d.1 = spotAt ds mx) : Nat) : Int) = (mx : Int); rw [f2.1 hf.2]⟩]
      rfl
    · rw [if_neg hf, if_neg]
      rintro ⟨h1, h2⟩
      apply hf
      rw [Bool.and_eq_true]
      have h1' : ((ds.findIdx fun d => decide (d.1 = spotAt ds mn) : Nat) : Int) = mn := h1
      have h2' : ((ds.findIdx fun d => decide (d.1 = spotAt ds mx) : Nat) : Int) = mx := h2
      exact ⟨f1.2 (by omega), f2.2 (by omega)⟩
theorem besideR_comm (mn mx k l : Nat) : besideR Wd ss ds mn mx k l = besideR Wd ss ds mn mx l k := by
  unfold besideR
  by_cases hs : spotAt ds k = spotAt ds l
  · rw [if_pos hs, if_pos hs.symm, hs]
  · rw [if_neg hs, if_neg (show ¬ spotAt ds l = spotAt ds k from fun e => hs e.symm), kindOf_comm, Bool.and_comm]
end
end Go.Proofs.Ytckndnaohggmhaa

/- The reference's Beside: the walk. -/
namespace Go.Proofs.Ytckndnaohggmhaa
open Go.RowKit Go.Shelf

section
variable {w : World} {Wd : Int} {A : Option Addr} {n c : Nat} {A' : Option Addr} {n' c' : Nat} {ss : List (Int × Int)} {ds : List (Int × Int × Int)}

set_option maxRecDepth 100000 in
set_option maxHeartbeats 4000000 in
theorem beside_ref_ok (k l mn mx : Nat) (h0 : bathErr Wd ss ds = 0) (hb : IsBath w w.heap.size A n c A' n' c' ss ds) (hk : k < n') (hl : l < n') (_hkl : k ≠ l) (hmn : min (k : Int) (l : Int) = (mn : Int)) (hmx : max (k : Int) (l : Int) = (mx : Int)) (hlt : mn < mx) (hmxn : mx < n') :
    Calls Try.prog 24 #[.agg #[.int .i64 Wd, .slice A n c, .slice A' n' c'], .int .i64 (k : Int), .int .i64 (l : Int)] w fun e w' => e = .returned (.tuple #[.int .i64 (besideR Wd ss ds mn mx k l), .int .i64 0]) ∧ Ext w w' := by
  have cB : ∀ W : World, IsBath W W.heap.size A n c A' n' c' ss ds → _ := fun W h => checkBath_ref (Wd := Wd) h
  rw [h0] at cB
  have cD := fun (x : Int) (W : World) => isDrop_ref (Wd := Wd) (A := A) (n := n) (c := c) (A' := A') (n' := n') (c' := c') x W
  have cD1 := cD (k : Int)
  have cD2 := cD (l : Int)
  rw [show (decide (0 ≤ (k : Int)) && decide ((k : Int) < (n' : Int))) = true from by simp; omega] at cD1
  rw [show (decide (0 ≤ (l : Int)) && decide ((l : Int) < (n' : Int))) = true from by simp; omega] at cD2
  have cF : ∀ (j : Nat), j < n' → ∀ W : World, IsBath W W.heap.size A n c A' n' c' ss ds → _ := fun j hj W h => first_ref (Wd := Wd) j h hj
  have hX0 : BathAt (w.alloc (.cells #[.int .i64 Wd, .slice A n c, .slice A' n' c'] 25)) w.heap.size Wd A n c A' n' c' ss ds := BathAt.new hb
  have hE0 : Ext w (w.alloc (.cells #[.int .i64 Wd, .slice A n c, .slice A' n' c'] 25)) := ext_alloc w _
  obtain ⟨S, hS⟩ : ∃ S, spotAt ds k = S := ⟨_, rfl⟩
  obtain ⟨T, hT⟩ : ∃ T, spotAt ds l = T := ⟨_, rfl⟩
  have bS := spot_lt h0 (show k < ds.length by rw [← hb.nds]; exact hk)
  have bT := spot_lt h0 (show l < ds.length by rw [← hb.nds]; exact hl)
  rw [← hb.nss, hS] at bS
  rw [← hb.nss, hT] at bT
  have cK : S ≠ T → ∀ W : World, IsBath W W.heap.size A n c A' n' c' ss ds → _ := fun hne W h => kind_ref (Wd := Wd) S T (bath_few h0) h (by omega) bS.2 (by omega) bT.2 hne
  obtain ⟨ans, hans⟩ : ∃ ans, besideR Wd ss ds mn mx k l = ans := ⟨_, rfl⟩
  rw [hans]
  have HANS : Hid (ans = if S = T then if (List.range mx).all (fun i => !(decide (mn < i) && decide (spotAt ds i = S))) then 2 else 0 else if firstB ds k && firstB ds l then kindOf Wd ss (sizes ds) S T else 0) := Lib.hid (by
    rw [← hans]
    unfold besideR
    rw [hS, hT])
  have hklz : ((k : Int) == (l : Int)) = false := by simp; omega
  have hmxb : (mx : Int) ≤ 9223372036854775807 := by have := hb.nle'; omega
  have hkz : (k : Int) < (n' : Int) := by omega
  have hlz : (l : Int) < (n' : Int) := by omega
  clear cD hans hb h0
  go_enter Try.func24, Try.ntmps24
  go_wp2_with fail
  refine (cB _ hX0.bath).mono ?_
  rintro e w1 ⟨rfl, hb1⟩
  have hX1 := hX0.ext hb1
  have hE1 := hE0.trans hb1
  clear hX0 hE0 hb1
  obtain ⟨q0, q1, q2⟩ := hX1.cells
  go_wp2_with fail
  refine (cD1 _).mono ?_
  rintro e w2 ⟨rfl, hb2⟩
  have hX2 := hX1.ext hb2
  have hE2 := hE1.trans hb2
  clear hX1 hE1 hb2 q0 q1 q2
  obtain ⟨q0, q1, q2⟩ := hX2.cells
  go_wp2_with fail
  refine (cD2 _).mono ?_
  rintro e w3 ⟨rfl, hb3⟩
  have hX3 := hX2.ext hb3
  have hE3 := Lib.hid (hE2.trans hb3)
  clear hX2 hE2 hb3 q0 q1 q2 cB cD1 cD2
  obtain ⟨q0, q1, q2⟩ := hX3.cells
  obtain ⟨b, off, rfl, d0, d1, d2⟩ := hX3.drop hk
  obtain ⟨b', off', hbb, c0, c1, c2⟩ := hX3.drop hl
  cases hbb
  rw [show (ds.getD k (0, 0, 0)).1 = S from hS] at d0
  rw [show (ds.getD l (0, 0, 0)).1 = T from hT] at c0
  have HX := Lib.hid hX3
  have HST := Lib.hid (And.intro hS hT)
  clear hX3 d1 d2 c1 c2 hS hT
  go_wp2
  go_quiet (fail)
  obtain ⟨w4, hw4⟩ : ∃ w4, w3.drewN nq = w4 := ⟨_, rfl⟩
  have e4 : Ext w3 w4 := by rw [← hw4]; exact ext_drewN (Ext.refl _) _
  rw [hw4]
  have HX4 := Lib.hid (HX.out.ext e4)
  have HE4 := Lib.hid (hE3.out.trans e4)
  clear hw4 e4 HX hE3 q0 q1 q2 d0 c0
  by_cases hst : S = T
  · subst hst
    have HAN : Hid (ans = if (List.range mx).all (fun i => !(decide (mn < i) && decide (spotAt ds i = S))) then 2 else 0) := Lib.hid (by rw [HANS.out, if_pos rfl])
    clear HANS cF cK
    go_wp2
    go_loopw [10] (fun i wr => ∃ j : Nat, mn + 1 ≤ j ∧ j ≤ mx ∧ i = .int .i64 j ∧ Hid (Ext w4 wr) ∧ Hid (∀ m, mn < m → m < j → spotAt ds m ≠ S)) (fun i _ => mx - (intOf i).toNat)
    case atStart => exact ⟨mn + 1, Nat.le_refl _, hlt, by go_num, Lib.hid (Ext.refl _), Lib.hid (fun m h1 h2 => by omega)⟩
    case round =>
      obtain ⟨j, hj1, hj2, rfl, hB, hN⟩ := hrel
      have hx := HX4.out.ext hB.out
      obtain ⟨q0, q1, q2⟩ := hx.cells
      by_cases hjm : j < mx
      · have hjz : (j : Int) < (mx : Int) := by omega
        have hjn : (j : Int) < (n' : Int) := by omega
        obtain ⟨b1, off1, hbb, d0, d1, d2⟩ := hx.drop (k := j) (by omega)
        cases hbb
        obtain ⟨y, hy⟩ : ∃ y, spotAt ds j = y := ⟨_, rfl⟩
        rw [show (ds.getD j (0, 0, 0)).1 = y from hy] at d0
        have HY := Lib.hid hy
        clear hx hy d1 d2
        by_cases hys : y = S
        · subst hys
          obtain rfl : ans = 0 := by
            rw [HAN.out, if_neg]
            rw [Bool.not_eq_true, List.all_eq_false]
            exact ⟨j, List.mem_range.2 hjm, by rw [HY.out]; simp; omega⟩
          go_wp2
          go_ret2
          exact ⟨rfl, HE4.out.trans hB.out⟩
        · have e1 : (y == S) = false := by simp [hys]
          have hN1 : Hid (∀ m, mn < m → m < j + 1 → spotAt ds m ≠ S) := Lib.hid fun m h1 h2 => by
            by_cases e : m = j
            · subst e
              rw [HY.out]
              exact hys
            · exact hN.out m h1 (by omega)
          clear HY hys hN
          go_wp2
          go_roundw
          case measure => simp [intOf]; omega
          case rel => exact ⟨j + 1, by omega, by omega, by go_num, hB, hN1⟩
      · have hjz : ¬ (j : Int) < (mx : Int) := by omega
        obtain rfl : ans = 2 := by
          rw [HAN.out, if_pos]
          rw [List.all_eq_true]
          intro i hi
          have him := List.mem_range.1 hi
          by_cases hmi : mn < i
          · have := hN.out i hmi (by omega)
            simp [hmi, this]
          · simp [hmi]
        clear hx
        go_wp2
        go_ret2
        exact ⟨rfl, HE4.out.trans hB.out⟩
  · have e1 : (S == T) = false := by simp [hst]
    have cK' := cK hst
    have HAN : Hid (ans = if firstB ds k && firstB ds l then kindOf Wd ss (sizes ds) S T else 0) := Lib.hid (by rw [HANS.out, if_neg hst])
    have cF1 := cF k hk
    have cF2 := cF l hl
    clear HANS cK cF hst
    obtain ⟨q0, q1, q2⟩ := HX4.out.cells
    cases f1 : firstB ds k with
    | false =>
      rw [f1] at cF1
      obtain rfl : ans = 0 := by rw [HAN.out, f1]; rfl
      go_wp2_with fail
      refine (cF1 _ HX4.out.bath).mono ?_
      rintro e w5 ⟨rfl, hb5⟩
      go_wp2
      go_ret2
      exact ⟨rfl, HE4.out.trans hb5⟩
    | true =>
      rw [f1] at cF1
      go_wp2_with fail
      refine (cF1 _ HX4.out.bath).mono ?_
      rintro e w5 ⟨rfl, hb5⟩
      have HX5 := Lib.hid (HX4.out.ext hb5)
      have HE5 := Lib.hid (HE4.out.trans hb5)
      clear q0 q1 q2 hb5 cF1
      obtain ⟨q0, q1, q2⟩ := HX5.out.cells
      cases f2 : firstB ds l with
      | false =>
        rw [f2] at cF2
        obtain rfl : ans = 0 := by rw [HAN.out, f1, f2]; rfl
        go_wp2_with fail
        refine (cF2 _ HX5.out.bath).mono ?_
        rintro e w6 ⟨rfl, hb6⟩
        go_wp2
        go_ret2
        exact ⟨rfl, HE5.out.trans hb6⟩
      | true =>
        rw [f2] at cF2
        have hka : kindOf Wd ss (sizes ds) S T = ans := by rw [HAN.out, f1, f2]; rfl
        rw [hka] at cK'
        clear f1 f2 HAN hka
        go_wp2_with fail
        refine (cF2 _ HX5.out.bath).mono ?_
        rintro e w6 ⟨rfl, hb6⟩
        have HX6 := Lib.hid (HX5.out.ext hb6)
        have HE6 := Lib.hid (HE5.out.trans hb6)
        clear q0 q1 q2 hb6 cF2
        obtain ⟨q0, q1, q2⟩ := HX6.out.cells
        go_wp2_with fail
        refine (cK' _ HX6.out.bath).mono ?_
        rintro e w7 ⟨rfl, hb7⟩
        go_wp2
        go_ret2
        exact ⟨rfl, HE6.out.trans hb7⟩

set_option maxRecDepth 100000 in
set_option maxHeartbeats 1000000 in
theorem beside_ref_bad (one two : Int) (h0 : bathErr Wd ss ds = 0) (hb : IsBath w w.heap.size A n c A' n' c' ss ds) (h : ¬ (0 ≤ one ∧ one < (n' : Int)) ∨ ¬ (0 ≤ two ∧ two < (n' : Int)) ∨ one = two) :
    Calls Try.prog 24 #[.agg #[.int .i64 Wd, .slice A n c, .slice A' n' c'], .int .i64 one, .int .i64 two] w fun e w' => e = .returned (.tuple #[.int .i64 0, .int .i64 2]) ∧ Ext w w' := by
  have cB : ∀ W : World, IsBath W W.heap.size A n c A' n' c' ss ds → _ := fun W h => checkBath_ref (Wd := Wd) h
  rw [h0] at cB
  have cD := fun (x : Int) (W : World) => isDrop_ref (Wd := Wd) (A := A) (n := n) (c := c) (A' := A') (n' := n') (c' := c') x W
  have cD1 := cD one
  have cD2 := cD two
  have hX0 : BathAt (w.alloc (.cells #[.int .i64 Wd, .slice A n c, .slice A' n' c'] 25)) w.heap.size Wd A n c A' n' c' ss ds := BathAt.new hb
  have hE0 : Ext w (w.alloc (.cells #[.int .i64 Wd, .slice A n c, .slice A' n' c'] 25)) := ext_alloc w _
  clear cD hb h0
  by_cases h1 : 0 ≤ one ∧ one < (n' : Int)
  · rw [show (decide (0 ≤ one) && decide (one < (n' : Int))) = true from by simp; omega] at cD1
    by_cases h2 : 0 ≤ two ∧ two < (n' : Int)
    · rw [show (decide (0 ≤ two) && decide (two < (n' : Int))) = true from by simp; omega] at cD2
      have h12 : one = two := by omega
      subst h12
      clear h h1 h2
      go_enter Try.func24, Try.ntmps24
      go_wp2_with fail
      refine (cB _ hX0.bath).mono ?_
      rintro e w1 ⟨rfl, hb1⟩
      have hX1 := hX0.ext hb1
      have hE1 := hE0.trans hb1
      clear hX0 hE0 hb1
      obtain ⟨q0, q1, q2⟩ := hX1.cells
      go_wp2_with fail
      refine (cD1 _).mono ?_
      rintro e w2 ⟨rfl, hb2⟩
      have hX2 := hX1.ext hb2
      have hE2 := Lib.hid (hE1.trans hb2)
      clear hX1 hE1 hb2 q0 q1 q2
      obtain ⟨q0, q1, q2⟩ := hX2.cells
      go_wp2_with fail
      refine (cD2 _).mono ?_
      rintro e w3 ⟨rfl, hb3⟩
      go_wp2
      go_ret2
      exact ⟨rfl, hE2.out.trans hb3⟩
    · rw [show (decide (0 ≤ two) && decide (two < (n' : Int))) = false from by simp; omega] at cD2
      clear h h1 h2
      go_enter Try.func24, Try.ntmps24
      go_wp2_with fail
      refine (cB _ hX0.bath).mono ?_
      rintro e w1 ⟨rfl, hb1⟩
      have hX1 := hX0.ext hb1
      have hE1 := hE0.trans hb1
      clear hX0 hE0 hb1
      obtain ⟨q0, q1, q2⟩ := hX1.cells
      go_wp2_with fail
      refine (cD1 _).mono ?_
      rintro e w2 ⟨rfl, hb2⟩
      have hX2 := hX1.ext hb2
      have hE2 := Lib.hid (hE1.trans hb2)
      clear hX1 hE1 hb2 q0 q1 q2
      obtain ⟨q0, q1, q2⟩ := hX2.cells
      go_wp2_with fail
      refine (cD2 _).mono ?_
      rintro e w3 ⟨rfl, hb3⟩
      go_wp2
      go_ret2
      exact ⟨rfl, hE2.out.trans hb3⟩
  · rw [show (decide (0 ≤ one) && decide (one < (n' : Int))) = false from by simp; omega] at cD1
    clear h h1 cD2
    go_enter Try.func24, Try.ntmps24
    go_wp2_with fail
    refine (cB _ hX0.bath).mono ?_
    rintro e w1 ⟨rfl, hb1⟩
    have hX1 := hX0.ext hb1
    have hE1 := Lib.hid (hE0.trans hb1)
    clear hX0 hE0 hb1
    obtain ⟨q0, q1, q2⟩ := hX1.cells
    go_wp2_with fail
    refine (cD1 _).mono ?_
    rintro e w2 ⟨rfl, hb2⟩
    go_wp2
    go_ret2
    exact ⟨rfl, hE1.out.trans hb2⟩

set_option maxRecDepth 100000 in
set_option maxHeartbeats 1000000 in
theorem beside_ref_err (one two : Int) (he : bathErr Wd ss ds ≠ 0) (hb : IsBath w w.heap.size A n c A' n' c' ss ds) :
    Calls Try.prog 24 #[.agg #[.int .i64 Wd, .slice A n c, .slice A' n' c'], .int .i64 one, .int .i64 two] w fun e w' => e = .returned (.tuple #[.int .i64 0, .int .i64 (bathErr Wd ss ds)]) ∧ Ext w w' := by
  have cB : ∀ W : World, IsBath W W.heap.size A n c A' n' c' ss ds → _ := fun W h => checkBath_ref (Wd := Wd) h
  have hX0 : BathAt (w.alloc (.cells #[.int .i64 Wd, .slice A n c, .slice A' n' c'] 25)) w.heap.size Wd A n c A' n' c' ss ds := BathAt.new hb
  have hE0 : Ext w (w.alloc (.cells #[.int .i64 Wd, .slice A n c, .slice A' n' c'] 25)) := ext_alloc w _
  clear hb
  generalize bathErr Wd ss ds = r at he cB ⊢
  have hne2 : (r != 0) = true := by simpa using he
  go_enter Try.func24, Try.ntmps24
  go_wp2_with fail
  refine (cB _ hX0.bath).mono ?_
  rintro e w1 ⟨rfl, hb1⟩
  have hX1 := hX0.ext hb1
  have hE1 := Lib.hid (hE0.trans hb1)
  clear hX0 hE0 hb1
  obtain ⟨q0, q1, q2⟩ := hX1.cells
  go_wp2_with fail
  refine (cB _ hX1.bath).mono ?_
  rintro e w2 ⟨rfl, hb2⟩
  go_wp2
  go_ret2
  exact ⟨rfl, hE1.out.trans hb2⟩

theorem beside_ref (one two : Int) (hb : IsBath w w.heap.size A n c A' n' c' ss ds) :
    Calls Try.prog 24 #[.agg #[.int .i64 Wd, .slice A n c, .slice A' n' c'], .int .i64 one, .int .i64 two] w fun e w' => e = .returned (.tuple #[.int .i64 (besideAns Wd ss ds one two).1, .int .i64 (besideAns Wd ss ds one two).2]) ∧ Ext w w' := by
  unfold besideAns
  by_cases he : bathErr Wd ss ds = 0
  · rw [if_pos he, ← hb.nds]
    by_cases hbad : min one two = max one two ∨ min one two < 0 ∨ (n' : Int) ≤ max one two
    · rw [if_pos hbad]
      exact beside_ref_bad one two he hb (by omega)
    · rw [if_neg hbad]
      obtain ⟨k, rfl⟩ := Int.eq_ofNat_of_zero_le (show 0 ≤ one by omega)
      obtain ⟨l, rfl⟩ := Int.eq_ofNat_of_zero_le (show 0 ≤ two by omega)
      have hnn := hb.nds
      rcases Nat.lt_trichotomy k l with h | h | h
      · rw [Int.min_eq_left (by omega), Int.max_eq_right (by omega), Int.toNat_natCast, Int.toNat_natCast, ← besideR_kind h (by omega)]
        exact beside_ref_ok k l k l he hb (by omega) (by omega) (by omega) (Int.min_eq_left (by omega)) (Int.max_eq_right (by omega)) h (by omega)
      · omega
      · rw [Int.min_eq_right (by omega), Int.max_eq_left (by omega), Int.toNat_natCast, Int.toNat_natCast, ← besideR_kind h (by omega), besideR_comm]
        exact beside_ref_ok k l l k he hb (by omega) (by omega) (by omega) (Int.min_eq_right (by omega)) (Int.max_eq_left (by omega)) h (by omega)
  · rw [if_neg he]
    exact beside_ref_err one two he hb
end
end Go.Proofs.Ytckndnaohggmhaa
