/- Texts of the package drop, joined: RefFirstAns. -/
import Derived.Test.YtckndnaohggmhaaC32
import Derived.Deep.Cut
/- The reference's First: the walk. -/
namespace Go.Proofs.Ytckndnaohggmhaa
open Go.RowKit Go.Shelf

/-- The kind of two places after the first k drops. -/
def kindK (Wd : Int) (ss : List (Int × Int)) (ds : List (Int × Int × Int)) (one two : Int) (k : Nat) : Int := kindOf Wd ss (sizes (ds.take k)) one two
/-- Both numbers of drops, by the least ones. -/
def firstR (Wd : Int) (ss : List (Int × Int)) (ds : List (Int × Int × Int)) (one two : Int) (lo hi : Nat) : Prop :=
  leastTo (fun k => decide (1 ≤ kindK Wd ss ds one two k)) ds.length lo ∧ leastTo (fun k => decide (kindK Wd ss ds one two k = 2)) ds.length hi

/-- What was found when all numbers from j on have been looked at. -/
def foundFrom (p : Nat → Bool) (len j L : Nat) : Prop := ((L = len + 1) ∨ (j ≤ L ∧ L ≤ len ∧ p L = true)) ∧ ∀ m, j ≤ m → m < L → m ≤ len → p m = false
theorem foundFrom_start (p : Nat → Bool) (len : Nat) : foundFrom p len (len + 1) (len + 1) := ⟨.inl rfl, fun m h1 h2 h3 => by omega⟩
theorem foundFrom_yes {p : Nat → Bool} {len j : Nat} (hj : j ≤ len) (hp : p j = true) : foundFrom p len j j := ⟨.inr ⟨Nat.le_refl _, hj, hp⟩, fun m h1 h2 _ => by omega⟩
theorem foundFrom_no {p : Nat → Bool} {len j L : Nat} (h : foundFrom p len (j + 1) L) (hp : p j = false) : foundFrom p len j L :=
  ⟨h.1.imp id fun ⟨a, b, c⟩ => ⟨by omega, b, c⟩, fun m h1 h2 h3 => by
    by_cases e : m = j
    · subst e; exact hp
    · exact h.2 m (by omega) h2 h3⟩
theorem foundFrom_end {p : Nat → Bool} {len L : Nat} (h : foundFrom p len 0 L) : leastTo p len L := ⟨h.1.imp id fun ⟨_, b, c⟩ => ⟨b, c⟩, fun m h1 h2 => h.2 m (Nat.zero_le _) h1 h2⟩

theorem row_set0 {W : World} {g : Nat} {a b v : Value} (h : W.heap[g]? = some (.cells #[a, b] 29 (0, 0))) : (W.setCell ⟨g, 0, none⟩ v).heap[g]? = some (.cells #[v, b] 29 (0, 0)) := by
  simp [World.setCell, Array.getElem?_modify, h]
theorem row_set1 {W : World} {g : Nat} {a b v : Value} (h : W.heap[g]? = some (.cells #[a, b] 29 (0, 0))) : (W.setCell ⟨g, 1, none⟩ v).heap[g]? = some (.cells #[a, v] 29 (0, 0)) := by
  simp [World.setCell, Array.getElem?_modify, h]

section
variable {w : World} {Wd : Int} {A : Option Addr} {n c : Nat} {A' : Option Addr} {n' c' : Nat} {ss : List (Int × Int)} {ds : List (Int × Int × Int)}

theorem kindK_zero {one two : Int} (he : forErr Wd ss ds one two = 0) : kindK Wd ss ds one two 0 = 0 := by
  obtain ⟨h0, h1, h2, h3⟩ := forErr_ok he
  unfold kindK kindOf
  have hm : ∀ f : Int × Int → Int, f (0, 0) = 0 → meetB Wd ss (fun i => f (sizes (ds.take 0) i)) one two = false := fun f hf => by
    have hs : (fun i => f (sizes (ds.take 0) i)) = fun _ => 0 := by funext i; simp [sizes, hf]
    rw [hs]
    unfold meetB
    by_cases ha : max one two < 0
    · rw [if_pos ha]
    · rw [if_neg ha]
      by_cases hb : min one two < 0
      · rw [if_pos hb]
        obtain ⟨X, Y, hXY⟩ : ∃ X Y, ss.getD (max one two).toNat (0, 0) = (X, Y) := ⟨_, _, rfl⟩
        have hbd := spot_bd (bath_few h0) (i := (max one two).toNat) (by omega) hXY
        rw [hXY]
        simp only [decide_eq_false_iff_not]
        split
        · have := Int.mul_le_mul (a := 1) (b := 1) (c := X) (d := X) (by omega) (by omega) (by omega) (by omega)
          omega
        · have := Int.mul_le_mul (a := 1) (b := 1) (c := Wd - X) (d := Wd - X) (by omega) (by omega) (by omega) (by omega)
          omega
      · rw [if_neg hb]
        simp [reachB]
  rw [hm (·.1) rfl, hm (·.2) rfl]
  simp

theorem firstAns_of {one two : Int} {lo hi : Nat} (he : forErr Wd ss ds one two = 0) (hk : kindOf Wd ss (sizes ds) one two ≠ 0) (h : firstR Wd ss ds one two lo hi) : firstAns Wd ss ds one two = (((lo : Int), (hi : Int)), 0) := by
  obtain ⟨h0, h1, h2, h3⟩ := forErr_ok he
  have hz := kindK_zero he
  have e1 := leastTo_findIdx (by simp [hz]) h.1
  have e2 := leastTo_findIdx (by simp [hz]) h.2
  unfold firstAns
  rw [if_pos he, if_neg hk]
  have q : ∀ f g : (Nat → Int × Int) → Bool, (∀ k, f (sizes (ds.take (k + 1))) = g (sizes (ds.take (k + 1)))) → (prefixes ds ds.length).findIdx f = (List.range ds.length).findIdx fun j => g (sizes (ds.take (j + 1))) := fun f g hfg => by
    unfold prefixes
    rw [List.findIdx_map]
    congr 1
    funext j
    exact hfg j
  have hmono : ∀ k, meetB Wd ss (fun i => (sizes (ds.take k) i).1) one two = true → meetB Wd ss (fun i => (sizes (ds.take k) i).2) one two = true := fun k =>
    meetB_mono Wd ss _ _ (fun i => (sizes_bd (ds.take k) (drops_bd h0 k) i).1) (fun i => (sizes_bd (ds.take k) (drops_bd h0 k) i).2.1) one two
  have f1 : (prefixes ds ds.length).findIdx (fun z => meetB Wd ss (fun i => (z i).2) one two) = (List.range ds.length).findIdx fun j => decide (1 ≤ kindK Wd ss ds one two (j + 1)) :=
    q _ (fun z => decide (1 ≤ kindOf Wd ss z one two)) fun k => by
      unfold kindOf
      have := hmono (k + 1)
      cases ha : meetB Wd ss (fun i => (sizes (ds.take (k + 1)) i).1) one two <;> cases hb : meetB Wd ss (fun i => (sizes (ds.take (k + 1)) i).2) one two <;> simp_all
  have f2 : (prefixes ds ds.length).findIdx (fun z => meetB Wd ss (fun i => (z i).1) one two) = (List.range ds.length).findIdx fun j => decide (kindK Wd ss ds one two (j + 1) = 2) :=
    q _ (fun z => decide (kindOf Wd ss z one two = 2)) fun k => by
      unfold kindOf
      cases ha : meetB Wd ss (fun i => (sizes (ds.take (k + 1)) i).1) one two <;> cases hb : meetB Wd ss (fun i => (sizes (ds.take (k + 1)) i).2) one two <;> simp
  rw [f1, f2, e1, e2]
  simp

set_option maxRecDepth 100000 in
set_option maxHeartbeats 4000000 in
theorem first26_ok (one two : Int) (hb : IsBath w w.heap.size A n c A' n' c' ss ds) (he : forErr Wd ss ds one two = 0) :
    Calls Try.prog 26 #[.agg #[.int .i64 Wd, .slice A n c, .slice A' n' c'], .int .i64 one, .int .i64 two] w fun e w' => e = .returned (.tuple #[.agg #[.int .i64 (firstAns Wd ss ds one two).1.1, .int .i64 (firstAns Wd ss ds one two).1.2], .int .i64 (firstAns Wd ss ds one two).2]) ∧ Ext w w' := by
  obtain ⟨h0, h12, h2, h3⟩ := forErr_ok he
  rw [← hb.nss] at h2 h3
  have cP : ∀ W : World, IsBath W W.heap.size A n c A' n' c' ss ds → _ := fun W h => places_ref (Wd := Wd) one two h
  rw [he] at cP
  have cK : ∀ W : World, IsBath W W.heap.size A n c A' n' c' ss ds → _ := fun W h => kind_ref (Wd := Wd) one two (bath_few h0) h h2.1 h2.2 h3.1 h3.2 h12
  have hX0 : BathAt ((w.alloc (.cells #[.int .i64 Wd, .slice A n c, .slice A' n' c'] 25)).alloc (.cells #[.int .i64 0, .int .i64 0] 29)) w.heap.size Wd A n c A' n' c' ss ds := (BathAt.new hb).ext (ext_alloc _ _)
  have hE0 : Ext w ((w.alloc (.cells #[.int .i64 Wd, .slice A n c, .slice A' n' c'] 25)).alloc (.cells #[.int .i64 0, .int .i64 0] 29)) := (ext_alloc w _).trans (ext_alloc _ _)
  have hR0 : ((w.alloc (.cells #[.int .i64 Wd, .slice A n c, .slice A' n' c'] 25)).alloc (.cells #[.int .i64 0, .int .i64 0] 29)).heap[w.heap.size + 1]? = some (.cells #[.int .i64 0, .int .i64 0] 29 (0, 0)) := row_last _ _ _ (by simp)
  have hfew := (bath_ok h0).2.1.2
  have hnd := hb.nds
  have hcap := hb.cap'
  have hmaj := hb.hds
  by_cases hk0 : kindOf Wd ss (sizes ds) one two = 0
  · have ha : firstAns Wd ss ds one two = ((0, 0), 17) := by unfold firstAns; rw [if_pos he, if_pos hk0]
    rw [ha]
    rw [hk0] at cK
    clear ha hk0 he h0 h12 h2 h3 hb hfew hnd hcap hmaj
    go_enter Try.func26, Try.ntmps26
    go_wp2_with fail
    refine (cP _ hX0.bath).mono ?_
    rintro e w1 ⟨rfl, hb1⟩
    have hX1 := hX0.ext hb1
    have hE1 := hE0.trans hb1
    have hR1 := row_ext hR0 hb1
    clear hX0 hE0 hR0 hb1
    obtain ⟨q0, q1, q2⟩ := hX1.cells
    go_wp2_with fail
    refine (cK _ hX1.bath).mono ?_
    rintro e w2 ⟨rfl, hb2⟩
    have hE2 := hE1.trans hb2
    have hR2 := Lib.hid (row_ext hR1 hb2)
    clear hX1 hE1 hR1 hb2 q0 q1 q2 cP cK
    go_wp2_with (refine wpList_store29 (.tmp 6) (.tmp 26) rfl rfl (w.heap.size + 1) rfl 0 0 0 0 rfl hR2.out ?_)
    refine bodyPost_ret (v := .tuple #[.agg #[.int .i64 0, .int .i64 0], .int .i64 17]) (results_rng_tmp rfl _ _ (w.heap.size + 1) 0 0 _ rfl rfl (row_setRow _ _ _ _ _ _ hR2.out)) rfl ⟨rfl, below_setRow hE2 (by omega) _⟩
  · have hsome : ∃ b off, A' = some ⟨b, off, none⟩ := by
      rcases hmaj with e | ⟨b, off, e, _⟩
      · exfalso
        have := kindK_zero he
        rw [kindK, e] at this
        rw [e] at hk0
        exact hk0 (by simpa using this)
      · exact ⟨b, off, e⟩
    obtain ⟨b, off, rfl⟩ := hsome
    have hn40 : n' ≤ 40 := by omega
    have hans : ∀ lo hi : Nat, firstR Wd ss ds one two lo hi → firstAns Wd ss ds one two = (((lo : Int), (hi : Int)), 0) := fun lo hi h => firstAns_of he hk0 h
    have HANS := Lib.hid hans
    have hkz : (kindOf Wd ss (sizes ds) one two == 0) = false := by simp [hk0]
    generalize kindOf Wd ss (sizes ds) one two = kd at cK hkz
    have cQ : ∀ (m : Nat), m ≤ n' → ∀ W : World, IsBath W W.heap.size A n c (some ⟨b, off, none⟩) n' c' ss ds → Calls Try.prog 71 #[.agg #[.int .i64 Wd, .slice A n c, .slice (some ⟨b, off, none⟩) m c'], .int .i64 one, .int .i64 two] W fun e w' => e = .returned (.int .i64 (kindK Wd ss ds one two m)) ∧ Ext W w' :=
      fun m hm W h => kind_ref (Wd := Wd) one two (bath_few (bathErr_take h0 m)) (h.part hm (.inl (by simp))) h2.1 h2.2 h3.1 h3.2 h12
    have CQ := Lib.hid cQ
    clear hk0 hans cQ he h0 h12 h2 h3 hb hfew hmaj
    have HND := Lib.hid hnd
    clear hnd
    go_enter Try.func26, Try.ntmps26
    go_wp2_with fail
    refine (cP _ hX0.bath).mono ?_
    rintro e w1 ⟨rfl, hb1⟩
    have hX1 := hX0.ext hb1
    have hE1 := hE0.trans hb1
    have hR1 := row_ext hR0 hb1
    clear hX0 hE0 hR0 hb1
    obtain ⟨q0, q1, q2⟩ := hX1.cells
    go_wp2_with fail
    refine (cK _ hX1.bath).mono ?_
    rintro e w2 ⟨rfl, hb2⟩
    have HX2 := Lib.hid (hX1.ext hb2)
    have HE2 := Lib.hid (hE1.trans hb2)
    have HR2 := Lib.hid (row_ext hR1 hb2)
    clear hX1 hE1 hR1 hb2 q0 q1 q2 cP cK
    obtain ⟨q0, q1, q2⟩ := HX2.out.cells
    go_upto_region 6 with fail
    obtain ⟨w3, hW, hg3, hE3⟩ : ∃ W, w2.alloc (.cells #[.int .i64 ((n' : Int) + 1), .int .i64 ((n' : Int) + 1)] 29) = W ∧ W.heap[w2.heap.size]? = some (.cells #[.int .i64 ((n' + 1 : Nat) : Int), .int .i64 ((n' + 1 : Nat) : Int)] 29 (0, 0)) ∧ Ext w2 W := ⟨_, rfl, by rw [show ((n' + 1 : Nat) : Int) = (n' : Int) + 1 from by omega]; exact row_last _ _ _ rfl, ext_alloc _ _⟩
    rw [hW]
    clear hW q0 q1 q2 hkz
    obtain ⟨q0, q1, q2⟩ := (HX2.out.ext hE3).cells
    obtain ⟨g, hg⟩ : ∃ g, w2.heap.size = g := ⟨_, rfl⟩
    rw [hg] at hg3 ⊢
    have HG := Lib.hid hg
    have HG3 := Lib.hid hg3
    have HE3 := Lib.hid hE3
    clear hg hg3 hE3
    go_wp2
    clear q0 q1 q2
    go_loopw [9, 10] (fun i _ wr => ∃ j L H : Nat, j ≤ n' + 1 ∧ i = .int .i64 ((j : Int) - 1) ∧ Hid (Ext w2 wr) ∧ Hid (wr.heap[g]? = some (.cells #[.int .i64 (L : Int), .int .i64 (H : Int)] 29 (0, 0))) ∧ Hid (foundFrom (fun k => decide (1 ≤ kindK Wd ss ds one two k)) n' j L) ∧ Hid (foundFrom (fun k => decide (kindK Wd ss ds one two k = 2)) n' j H)) (fun i _ _ => (intOf i + 1).toNat)
    case atStart => exact ⟨n' + 1, n' + 1, n' + 1, Nat.le_refl _, by go_num, HE3, HG3, Lib.hid (foundFrom_start _ _), Lib.hid (foundFrom_start _ _)⟩
    case round =>
      obtain ⟨j, L, H, hj, rfl, hB, hR, hL, hH⟩ := hrel
      have hx := HX2.out.ext hB.out
      obtain ⟨q0, q1, q2⟩ := hx.cells
      match j, hj, hL, hH with
      | 0, _, hL, hH =>
        have f1 := HANS.out L H ⟨by rw [← HND.out]; exact foundFrom_end hL.out, by rw [← HND.out]; exact foundFrom_end hH.out⟩
        have FA := Lib.hid f1
        have hR2 := Lib.hid (row_ext HR2.out hB.out)
        clear f1 hL hH hx q0 q1 q2 CQ
        have l0 := cell_of_row _ _ 0 _ _ _ hR.out
        have l1 := cell_of_row _ _ 1 _ _ _ hR.out
        simp at l0 l1
        have HB := hB
        go_wp2_with (refine wpList_store29 (.tmp 6) (.tmp 57) rfl rfl (w.heap.size + 1) rfl _ _ 0 0 rfl hR2.out ?_)
        exact bodyPost_ret (v := .tuple #[.agg #[.int .i64 (L : Int), .int .i64 (H : Int)], .int .i64 0]) (results_rng_tmp rfl _ _ (w.heap.size + 1) _ _ _ rfl rfl (row_setRow _ _ _ _ _ _ hR2.out)) rfl ⟨by rw [FA.out], below_setRow (HE2.out.trans HB.out) (by omega) _⟩
      | m + 1, hj, hL, hH =>
        have hm1 : ((m + 1 : Nat) : Int) - 1 = (m : Int) := by omega
        rw [hm1]
        have cPt := part_ref (Wd := Wd) (A := A) (n := n) (c := c) (b := b) (off := off) (n' := n') (c' := c') m (by omega) wr
        have cQ2 := fun (W : World) (h : Ext wr W) => CQ.out m (by omega) W (hx.ext h).bath
        obtain ⟨kd2, hkd⟩ : ∃ k, kindK Wd ss ds one two m = k := ⟨_, rfl⟩
        have hbd : 0 ≤ kd2 ∧ kd2 ≤ 2 := by rw [← hkd]; exact kindOf_bd _ _ _ _ _
        rw [hkd] at cQ2
        have HKD := Lib.hid hkd
        have hgl : g < wr.heap.size := (Array.getElem?_eq_some_iff.1 hR.out).1
        clear hx hkd
        rcases (show kd2 = 0 ∨ kd2 = 1 ∨ kd2 = 2 by omega) with h | h | h
        · obtain rfl : kd2 = 0 := h
          clear hbd
          go_wp2_with fail
          refine cPt.mono ?_
          rintro e v1 ⟨rfl, hb1⟩
          go_wp2_with fail
          refine (cQ2 v1 hb1).mono ?_
          rintro e v2 ⟨rfl, hb2⟩
          have hr2 := row_ext hR.out (Ext.trans hb1 hb2)
          have f0 : v2.frozen? ⟨g, 0, none⟩ = false := by simp [World.frozen?, hr2]
          have f1 : v2.frozen? ⟨g, 1, none⟩ = false := by simp [World.frozen?, hr2]
          have l0 := cell_of_row _ _ 0 _ _ _ hr2
          have l1 := cell_of_row _ _ 1 _ _ _ hr2
          simp at l0 l1
          have HR2' := Lib.hid hr2
          have hEv := Lib.hid (hB.out.trans (Ext.trans hb1 hb2))
          clear hr2 hb1 hb2 cPt cQ2 q0 q1 q2
          go_wp2
          go_roundw
          case measure => simp [intOf]
          case rel => exact ⟨m, L, H, by omega, by go_num, hEv, Lib.hid (HR2'.out), Lib.hid (foundFrom_no hL.out (by simp [HKD.out])), Lib.hid (foundFrom_no hH.out (by simp [HKD.out]))⟩
        · obtain rfl : kd2 = 1 := h
          clear hbd
          go_wp2_with fail
          refine cPt.mono ?_
          rintro e v1 ⟨rfl, hb1⟩
          go_wp2_with fail
          refine (cQ2 v1 hb1).mono ?_
          rintro e v2 ⟨rfl, hb2⟩
          have hr2 := row_ext hR.out (Ext.trans hb1 hb2)
          have f0 : v2.frozen? ⟨g, 0, none⟩ = false := by simp [World.frozen?, hr2]
          have f1 : v2.frozen? ⟨g, 1, none⟩ = false := by simp [World.frozen?, hr2]
          have l0 := cell_of_row _ _ 0 _ _ _ hr2
          have l1 := cell_of_row _ _ 1 _ _ _ hr2
          simp at l0 l1
          have HR2' := Lib.hid hr2
          have hEv := Lib.hid (hB.out.trans (Ext.trans hb1 hb2))
          clear hr2 hb1 hb2 cPt cQ2 q0 q1 q2
          go_wp2
          go_roundw
          case measure => simp [intOf]
          case rel => exact ⟨m, m, H, by omega, by go_num, Lib.hid (Below.setCell hEv.out (p := ⟨g, 0, none⟩) (by show w2.heap.size ≤ g; rw [HG.out]; exact Nat.le_refl _) _), Lib.hid (row_set0 HR2'.out), Lib.hid (foundFrom_yes (by omega) (by simp [HKD.out])), Lib.hid (foundFrom_no hH.out (by simp [HKD.out]))⟩
        · obtain rfl : kd2 = 2 := h
          clear hbd
          go_wp2_with fail
          refine cPt.mono ?_
          rintro e v1 ⟨rfl, hb1⟩
          go_wp2_with fail
          refine (cQ2 v1 hb1).mono ?_
          rintro e v2 ⟨rfl, hb2⟩
          have hr2 := row_ext hR.out (Ext.trans hb1 hb2)
          have f0 : v2.frozen? ⟨g, 0, none⟩ = false := by simp [World.frozen?, hr2]
          have f1 : v2.frozen? ⟨g, 1, none⟩ = false := by simp [World.frozen?, hr2]
          have l0 := cell_of_row _ _ 0 _ _ _ hr2
          have l1 := cell_of_row _ _ 1 _ _ _ hr2
          simp at l0 l1
          have HR2' := Lib.hid hr2
          have hEv := Lib.hid (hB.out.trans (Ext.trans hb1 hb2))
          clear hr2 hb1 hb2 cPt cQ2 q0 q1 q2
          go_wp2
          go_roundw
          case measure => simp [intOf]
          case rel => exact ⟨m, m, m, by omega, by go_num, Lib.hid (Below.setCell (Below.setCell hEv.out (p := ⟨g, 0, none⟩) (by show w2.heap.size ≤ g; rw [HG.out]; exact Nat.le_refl _) _) (p := ⟨g, 1, none⟩) (by show w2.heap.size ≤ g; rw [HG.out]; exact Nat.le_refl _) _), Lib.hid (row_set1 (row_set0 HR2'.out)), Lib.hid (foundFrom_yes (by omega) (by simp [HKD.out])), Lib.hid (foundFrom_yes (by omega) (by simp [HKD.out]))⟩
set_option maxRecDepth 100000 in
set_option maxHeartbeats 1000000 in
theorem first26_err (one two : Int) (he : forErr Wd ss ds one two ≠ 0) (hb : IsBath w w.heap.size A n c A' n' c' ss ds) :
    Calls Try.prog 26 #[.agg #[.int .i64 Wd, .slice A n c, .slice A' n' c'], .int .i64 one, .int .i64 two] w fun e w' => e = .returned (.tuple #[.agg #[.int .i64 0, .int .i64 0], .int .i64 (forErr Wd ss ds one two)]) ∧ Ext w w' := by
  have cP : ∀ W : World, IsBath W W.heap.size A n c A' n' c' ss ds → _ := fun W h => places_ref (Wd := Wd) one two h
  have hX0 : BathAt ((w.alloc (.cells #[.int .i64 Wd, .slice A n c, .slice A' n' c'] 25)).alloc (.cells #[.int .i64 0, .int .i64 0] 29)) w.heap.size Wd A n c A' n' c' ss ds := (BathAt.new hb).ext (ext_alloc _ _)
  have hE0 : Ext w ((w.alloc (.cells #[.int .i64 Wd, .slice A n c, .slice A' n' c'] 25)).alloc (.cells #[.int .i64 0, .int .i64 0] 29)) := (ext_alloc w _).trans (ext_alloc _ _)
  have hR0 : ((w.alloc (.cells #[.int .i64 Wd, .slice A n c, .slice A' n' c'] 25)).alloc (.cells #[.int .i64 0, .int .i64 0] 29)).heap[w.heap.size + 1]? = some (.cells #[.int .i64 0, .int .i64 0] 29 (0, 0)) := row_last _ _ _ (by simp)
  clear hb
  generalize forErr Wd ss ds one two = r at he cP ⊢
  have hne2 : (r != 0) = true := by simpa using he
  clear he
  go_enter Try.func26, Try.ntmps26
  go_wp2_with fail
  refine (cP _ hX0.bath).mono ?_
  rintro e w1 ⟨rfl, hb1⟩
  have hX1 := hX0.ext hb1
  have hE1 := hE0.trans hb1
  have hR1 := row_ext hR0 hb1
  clear hX0 hE0 hR0 hb1
  obtain ⟨q0, q1, q2⟩ := hX1.cells
  go_wp2_with fail
  refine (cP _ hX1.bath).mono ?_
  rintro e w2 ⟨rfl, hb2⟩
  have hE2 := hE1.trans hb2
  have hR2 := Lib.hid (row_ext hR1 hb2)
  clear hX1 hE1 hR1 hb2 q0 q1 q2 cP
  go_wp2_with (refine wpList_store29 (.tmp 6) (.tmp 16) rfl rfl (w.heap.size + 1) rfl 0 0 0 0 rfl hR2.out ?_)
  refine bodyPost_ret (v := .tuple #[.agg #[.int .i64 0, .int .i64 0], .int .i64 r]) (results_rng_tmp rfl _ _ (w.heap.size + 1) 0 0 _ rfl rfl (row_setRow _ _ _ _ _ _ hR2.out)) rfl ⟨rfl, below_setRow hE2 (by omega) _⟩

/-- The reference's First. -/
theorem firstAns_ref (one two : Int) (hb : IsBath w w.heap.size A n c A' n' c' ss ds) :
    Calls Try.prog 26 #[.agg #[.int .i64 Wd, .slice A n c, .slice A' n' c'], .int .i64 one, .int .i64 two] w fun e w' => e = .returned (.tuple #[.agg #[.int .i64 (firstAns Wd ss ds one two).1.1, .int .i64 (firstAns Wd ss ds one two).1.2], .int .i64 (firstAns Wd ss ds one two).2]) ∧ Ext w w' := by
  by_cases he : forErr Wd ss ds one two = 0
  · exact first26_ok one two hb he
  · have ha : firstAns Wd ss ds one two = ((0, 0), forErr Wd ss ds one two) := by unfold firstAns; rw [if_neg he]
    rw [ha]
    exact first26_err one two he hb
end
end Go.Proofs.Ytckndnaohggmhaa
