/- Texts of one package, joined: Worth, Checks, RefBase, RefCheck. -/
import Derived.Test.YtmlmnljbegcjcaaGreatD5
import Derived.ChangeKeysEq
import Derived.Laws.StructEq
/- worth, Worth, CheckBaths. -/
namespace Go.Proofs.YtmlmnljbegcjcaaGreat
open Go.RowKit Go.Shelf
attribute [local irreducible] bitCells

/-- What the first k orders that baths do are worth. -/
def worthTo (os : List Odr) (bs : List Int) (k : Nat) : Int := sumI ((List.range k).map fun i => if doesB os bs i then (oAt os i).worth else 0)
theorem worthTo_succ (os : List Odr) (bs : List Int) (k : Nat) : worthTo os bs (k + 1) = worthTo os bs k + if doesB os bs k then (oAt os k).worth else 0 := by
  unfold worthTo
  rw [List.range_succ, List.map_append, sumI_append]
  simp [sumI]
theorem worthTo_len (os : List Odr) (bs : List Int) : worthTo os bs os.length = worthOf os bs := by
  unfold worthTo worthOf worthBy
  congr 1
  refine List.ext_getElem (by simp) fun i h1 h2 => ?_
  simp at h1 h2
  simp [doesB, h1, oAt_get h1]
theorem worthTo_more (os : List Odr) (bs : List Int) : ∀ d, worthTo os bs (os.length + d) = worthOf os bs
  | 0 => worthTo_len os bs
  | d + 1 => by
    rw [show os.length + (d + 1) = os.length + d + 1 from rfl, worthTo_succ, worthTo_more os bs d]
    have h : doesB os bs (os.length + d) = false := by simp [doesB]; intro h; omega
    rw [h]
    simp
theorem worthTo_all {os : List Odr} (bs : List Int) (h : os.length ≤ 14) : worthTo os bs 14 = worthOf os bs := by
  have := worthTo_more os bs (14 - os.length)
  rwa [show os.length + (14 - os.length) = 14 from by omega] at this
theorem does_lt {os : List Odr} {bs : List Int} {i : Nat} (h : doesB os bs i = true) : i < os.length := by
  unfold doesB at h
  rw [Bool.and_eq_true, decide_eq_true_eq] at h
  exact h.1
theorem worthTo_bound {os : List Odr} (hk : ∀ o, o ∈ os → ordOk o = true) (bs : List Int) : ∀ k, 0 ≤ worthTo os bs k ∧ worthTo os bs k ≤ 100000 * k
  | 0 => by simp [worthTo, sumI]
  | k + 1 => by
    have ih := worthTo_bound hk bs k
    rw [worthTo_succ]
    cases h : doesB os bs k
    · simp; omega
    · have := (ordOk_iff.1 (hk _ (oAt_mem (does_lt h)))).2.2
      simp; omega

set_option maxRecDepth 100000 in
set_option maxHeartbeats 2000000 in
theorem worth_any {A : Option Addr} {c : Nat} {os : List Odr} {w : World} (hb : IsBook w A c os) (A' : Option Addr) (n' c' : Nat) (bs : List Int) (hn' : n' = bs.length) (hm' : n' ≤ 9223372036854775807) (hh : Held w w.heap.size 1 encI A' bs) :
    Calls Tryz.prog 70 #[.slice A os.length c, .slice A' n' c'] w fun e w' => e = .returned (.int .i64 (worthOf os bs)) ∧ Ext w w' := by
  have h57 := does_any hb A' n' c' bs hn' hm' hh
  have hall := worthTo_all bs hb.few.2
  have hbd := worthTo_bound (orders_ok hb.ok).2 bs
  have hsu := worthTo_succ os bs
  have hlt := fun i => does_lt (os := os) (bs := bs) (i := i)
  have hM : ∀ (i : Nat) W, i < 14 → (Instr.index 83 (.agg (bitCells (doesB os bs))) (.int .i64 (i : Int))).run Tryz.prog W = .ok (.bool (doesB os bs i)) W := fun i W hi => run_index83 _ i hi W
  have HB := Lib.hid hb
  rw [← hall]
  obtain ⟨D, hD⟩ : ∃ D, doesB os bs = D := ⟨_, rfl⟩
  obtain ⟨WT, hW⟩ : ∃ WT, worthTo os bs = WT := ⟨_, rfl⟩
  rw [hD] at h57
  simp only [hD] at hsu hlt hM
  simp only [hW] at hsu hbd ⊢
  have hw0 : WT 0 = 0 := by rw [← hW]; rfl
  have HM := Lib.hid hM
  have HBD := Lib.hid hbd
  have HSU := Lib.hid hsu
  have HLT := Lib.hid hlt
  clear hall hb hD hW hM hbd hsu hlt hh hn'
  go_enter Tryz.func70, Tryz.ntmps70
  go_wp2_with (refine h57.mono ?_; rintro e w1 ⟨rfl, e1⟩; have HE := Lib.hid e1; clear e1 h57)
  go_loopw [5, 6, 7, 11] (fun s _ _ i wr => ∃ k : Nat, k ≤ 14 ∧ i = .int .i64 k ∧ s = .int .i64 (WT k) ∧ wr = w1) (fun _ _ _ i _ => 14 - (intOf i).toNat)
  case atStart => exact ⟨0, Nat.zero_le _, rfl, by rw [hw0], rfl⟩
  case round =>
    obtain ⟨k, hk, rfl, rfl, rfl⟩ := hrel
    by_cases hlt : k < 14
    · have hltz : (k : Int) < 14 := by omega
      have hbit := HM.out k wr hlt
      have hsu := HSU.out k
      have hbd := HBD.out k
      cases hq : D k with
      | true =>
        rw [hq] at hbit hsu
        rw [if_pos rfl] at hsu
        have hkl := HLT.out k hq
        have hklz : (k : Int) < (os.length : Int) := by omega
        obtain ⟨b, off, rfl, hbl, _, _, _, _, c4, _⟩ := (HB.out.ext HE.out).at hkl
        rw [oAt_get hkl] at hsu
        have hwb := (ordOk_iff.1 ((orders_ok HB.out.ok).2 _ (List.getElem_mem hkl))).2.2
        obtain ⟨x, hx⟩ : ∃ x, os[k].worth = x := ⟨_, rfl⟩
        rw [hx] at c4 hsu hwb
        obtain ⟨s, hs⟩ : ∃ s, WT k = s := ⟨_, rfl⟩
        obtain ⟨s2, hs2⟩ : ∃ s2, WT (k + 1) = s2 := ⟨_, rfl⟩
        rw [hs] at hbd
        rw [hs, hs2] at hsu
        rw [hs]
        have hwr : IntKind.i64.wrap (s + x) = s + x := IntWalk.i64_in _ (by omega)
        have HS2 := Lib.hid hs2
        have HSU2 := Lib.hid hsu
        clear hs hs2 hx hsu hbd hwb hq
        go_wp2
        go_roundw
        case measure => simp [intOf]; omega
        case rel => exact ⟨k + 1, by omega, by go_num, by rw [HS2.out, HSU2.out], trivial⟩
      | false =>
        rw [hq] at hbit hsu
        rw [if_neg (by decide), Int.add_zero] at hsu
        have HSU2 := Lib.hid hsu
        clear hq hsu hbd
        go_wp2
        go_roundw
        case measure => simp [intOf]; omega
        case rel => exact ⟨k + 1, by omega, by go_num, by rw [HSU2.out], trivial⟩
    · have hltz : ¬ (k : Int) < 14 := by omega
      obtain rfl : k = 14 := by omega
      go_wp2
      go_ret
      exact ⟨rfl, HE.out⟩

/-- A number and an error. -/
def NumPost (x err : Int) (w : World) (e : Ending) (w' : World) : Prop := e = .returned (.tuple #[.int .i64 x, .int .i64 err]) ∧ Ext w w'
def worthAns (os : List Odr) (bs : List Int) : Int := if withErr os bs = 0 then worthOf os bs else 0
set_option maxHeartbeats 2000000 in
theorem worth27_any {A : Option Addr} {n c : Nat} {os : List Odr} {w : World} (h : IsOrders w A n c os) (A' : Option Addr) (n' c' : Nat) (bs : List Int) (hn' : n' = bs.length) (hm' : n' ≤ 9223372036854775807) (hh : Held w w.heap.size 1 encI A' bs) :
    Calls Tryz.prog 27 #[.slice A n c, .slice A' n' c'] w (NumPost (worthAns os bs) (withErr os bs) w) := by
  have h69 := openedWith_any h A' n' c' bs hn' hm' hh
  have h70 := fun W A1 c1 (hW : Ext w W) (hb : IsBook W A1 c1 os) => worth_any hb A' n' c' bs hn' hm' (hh.ext hW)
  obtain ⟨E, hE⟩ : ∃ E, withErr os bs = E := ⟨_, rfl⟩
  obtain ⟨X, hX⟩ : ∃ X, worthOf os bs = X := ⟨_, rfl⟩
  have ha : worthAns os bs = if E = 0 then X else 0 := by unfold worthAns; rw [hE, hX]
  obtain ⟨Z, hZ⟩ : ∃ Z, worthAns os bs = Z := ⟨_, rfl⟩
  rw [hZ] at ha
  rw [hZ, hE]
  rw [hE] at h69
  simp only [hX] at h70
  have H70 := Lib.hid h70
  have HA := Lib.hid ha
  clear ha hE hX hZ h70 h hh hn'
  go_enter Tryz.func27, Tryz.ntmps27
  go_wp2_with fail
  refine h69.mono ?_
  rintro e w1 ⟨e1, ⟨hn, rfl⟩ | ⟨rfl, A1, c1, rfl, hbk⟩⟩
  · have HE := Lib.hid e1
    have ha := HA.out
    rw [if_neg hn] at ha
    subst ha
    clear e1 h69
    go_wp2
    go_ret2
    exact ⟨rfl, HE.out⟩
  · have HE := Lib.hid e1
    have ha := HA.out
    rw [if_pos rfl] at ha
    subst ha
    have h70 := H70.out w1 A1 c1 e1 hbk
    clear e1 h69 hbk
    go_wp2_with (refine h70.mono ?_; rintro e w2 ⟨rfl, e2⟩; have HE2 := Lib.hid (HE.out.trans e2); clear e2 h70)
    go_ret2
    exact ⟨rfl, HE2.out⟩

/-- Whether two lots of marks are one. -/
def sameBits (M M' : Nat → Bool) : Bool := (List.range 14).all fun j => M j == M' j
theorem eqItems_bits (d : Nat) (M M' : Nat → Bool) (xs ys : Array Value) (w : World) (is : List Nat) (hx : ∀ j, j ∈ is → xs[j]? = some (.bool (M j))) (hy : ∀ j, j ∈ is → ys[j]? = some (.bool (M' j))) :
    (Op.eqItems (d + 1) 4 (Tryz.prog.cellsOf 4) xs ys is).run Tryz.prog w = .ok (is.all fun j => M j == M' j) w := by
  have hc : Tryz.prog.cellsOf 4 = 1 := by kernel_rfl
  have u4 := Tryz.underlying4
  have a4 := Tryz.isAgg4
  induction is with
  | nil => simp [Op.eqItems]
  | cons j is ih =>
    have h1 := hx j (by simp)
    have h2 := hy j (by simp)
    have ih' := ih (fun i hi => hx i (by simp [hi])) (fun i hi => hy i (by simp [hi]))
    have p1 : (part 4 xs (j * Tryz.prog.cellsOf 4)).run Tryz.prog w = .ok (.bool (M j)) w := by
      rw [hc, Nat.mul_one]
      unfold part
      go_simp
    have p2 : (part 4 ys (j * Tryz.prog.cellsOf 4)).run Tryz.prog w = .ok (.bool (M' j)) w := by
      rw [hc, Nat.mul_one]
      unfold part
      go_simp
    have p3 := run_equalIn_bool (P := Tryz.prog) w d 4 (M j) (M' j) u4
    simp only [Op.eqItems, Sem.run_bind, p1, p2, p3, Result.andThen_ok]
    cases hr : M j == M' j
    · simp [hr]
    · simpa [hr] using ih'
theorem neq83 (M M' : Nat → Bool) (w : World) : (binOp .neq 83 (.agg (bitCells M)) (.agg (bitCells M'))).run Tryz.prog w = .ok (.bool (!sameBits M M')) w := by
  obtain ⟨i4, hi4, _⟩ := info_parts info4
  have u83 : Tryz.prog.underlying 83 = some (.array 14 4) := by kernel_rfl
  rw [run_neq_struct, show (10000 : Nat) = 9999 + 1 from rfl, run_equalIn_array w 9999 _ _ u83 hi4, show (9999 : Nat) = 9998 + 1 from rfl, eqItems_bits 9998 M M']
  · rfl
  · intro j hj
    exact bitCells_get M j (by simpa using hj)
  · intro j hj
    exact bitCells_get M' j (by simpa using hj)
end Go.Proofs.YtmlmnljbegcjcaaGreat

/- CheckBaths, Births. -/
namespace Go.Proofs.YtmlmnljbegcjcaaGreat
open Go.RowKit Go.Shelf
attribute [local irreducible] bitCells

def checkBathsErr (os : List Odr) (bs : List Int) : Int := if withErr os bs = 0 then if os.all (madeB bs) then 0 else 22 else withErr os bs
theorem same_all {os : List Odr} (bs : List Int) (h : os.length ≤ 14) : sameBits (doesB os bs) (fun i => decide (i < os.length)) = os.all (madeB bs) := by
  rw [Bool.eq_iff_iff, List.all_eq_true]
  unfold sameBits
  rw [List.all_eq_true]
  constructor
  · intro hh o ho
    obtain ⟨i, hi, rfl⟩ := List.getElem_of_mem ho
    have := hh i (List.mem_range.2 (by omega))
    simpa [doesB, hi, oAt_get hi] using this
  · intro hh i _
    by_cases hi : i < os.length
    · simp [doesB, hi, oAt_get hi, hh _ (List.getElem_mem hi)]
    · simp [doesB, hi]
set_option maxHeartbeats 2000000 in
theorem checkBaths_any {A : Option Addr} {n c : Nat} {os : List Odr} {w : World} (h : IsOrders w A n c os) (A' : Option Addr) (n' c' : Nat) (bs : List Int) (hn' : n' = bs.length) (hm' : n' ≤ 9223372036854775807) (hh : Held w w.heap.size 1 encI A' bs) :
    Calls Tryz.prog 29 #[.slice A n c, .slice A' n' c'] w fun e w' => e = .returned (.int .i64 (checkBathsErr os bs)) ∧ Ext w w' := by
  have h69 := openedWith_any h A' n' c' bs hn' hm' hh
  have h57 := fun W A1 c1 (hW : Ext w W) (hb : IsBook W A1 c1 os) => does_any hb A' n' c' bs hn' hm' (hh.ext hW)
  obtain ⟨E, hE⟩ : ∃ E, withErr os bs = E := ⟨_, rfl⟩
  obtain ⟨Z, hZ⟩ : ∃ Z, checkBathsErr os bs = Z := ⟨_, rfl⟩
  have ha : Z = if E = 0 then if os.all (madeB bs) then 0 else 22 else E := by rw [← hZ, ← hE]; rfl
  have hs := fun h => same_all (os := os) bs h
  obtain ⟨D, hD⟩ : ∃ D, doesB os bs = D := ⟨_, rfl⟩
  obtain ⟨q, hq⟩ : ∃ q, os.all (madeB bs) = q := ⟨_, rfl⟩
  rw [hZ]
  rw [hE] at h69
  simp only [hD] at h57 hs
  rw [hq] at ha hs
  have H57 := Lib.hid h57
  have HA := Lib.hid ha
  have HS := Lib.hid hs
  clear ha hE hZ hD hq hs h57 h hh hn'
  go_enter Tryz.func29, Tryz.ntmps29
  go_wp2_with fail
  refine h69.mono ?_
  rintro e w1 ⟨e1, ⟨hn, rfl⟩ | ⟨rfl, A1, c1, rfl, hbk⟩⟩
  · have HE := Lib.hid e1
    have ha := HA.out
    rw [if_neg hn] at ha
    subst ha
    clear e1 h69
    go_wp2
    go_ret
    exact ⟨rfl, HE.out⟩
  · have HE := Lib.hid e1
    have ha := HA.out
    rw [if_pos rfl] at ha
    replace HA := Lib.hid ha
    have hsb := HS.out hbk.few.2
    have h57 := H57.out w1 A1 c1 e1 hbk
    have h14 := hbk.few.2
    have hneq := fun W => neq83 D (fun i => decide (i < os.length)) W
    obtain ⟨G, hG⟩ : ∃ G : Nat → Bool, (fun i => decide (i < os.length)) = G := ⟨_, rfl⟩
    have h71 : ∀ W, Calls Tryz.prog 71 #[.slice A1 os.length c1] W fun e w' => e = .returned (.agg (bitCells G)) ∧ Ext W w' := fun W => by rw [← hG]; exact all_any h14
    rw [hG] at hsb
    simp only [hG, hsb] at hneq
    clear e1 h69 hbk ha hG hsb
    cases q with
    | true =>
      have ha := HA.out
      rw [if_pos rfl] at ha
      subst ha
      go_wp2_with (first | (refine h57.mono ?_; rintro e w2 ⟨rfl, e2⟩; have HE2 := Lib.hid (HE.out.trans e2); clear e2 h57) | (refine (h71 _).mono ?_; rintro e w3 ⟨rfl, e3⟩; have HE3 := Lib.hid (HE2.out.trans e3); clear e3 h71; have hn2 := hneq w3))
      go_ret
      exact ⟨rfl, HE3.out⟩
    | false =>
      have ha := HA.out
      rw [if_neg (by decide)] at ha
      subst ha
      go_wp2_with (first | (refine h57.mono ?_; rintro e w2 ⟨rfl, e2⟩; have HE2 := Lib.hid (HE.out.trans e2); clear e2 h57) | (refine (h71 _).mono ?_; rintro e w3 ⟨rfl, e3⟩; have HE3 := Lib.hid (HE2.out.trans e3); clear e3 h71; have hn2 := hneq w3))
      go_ret
      exact ⟨rfl, HE3.out⟩

theorem results_cell_tmp {fn : Func} {p t : Tmp} (T : TypeId) (h : fn.results = #[.cell p T, .tmp t]) (tmps : Array Value) (w : World) (g : Nat) (cs : Array Value) (v : Value)
    (hp : tmps.getD p undef = .pointer (some ⟨g, 0, none⟩)) (ht : tmps.getD t undef = v) (hl : (loadVar T ⟨g, 0, none⟩).run Tryz.prog w = .ok (.agg cs) w) :
    (results fn tmps).run Tryz.prog w = .ok (.tuple #[.agg cs, v]) w := by
  have hp' : tmps[p]?.getD undef = .pointer (some ⟨g, 0, none⟩) := by simpa using hp
  have ht' : tmps[t]?.getD undef = v := by simpa using ht
  simp [results, h, hp', ht', asAddr, hl]
theorem size26 : (Tryz.prog.info? 26).map (·.size) = some 2 := by kernel_rfl
theorem set2_row (W : World) (g : Nat) (x y x0 y0 : Value) (t : TypeId) (h : W.heap[g]? = some (.cells #[x0, y0] t (0, 0))) : ((W.setCell ⟨g, 0, none⟩ x).setCell ⟨g, 1, none⟩ y).heap[g]? = some (.cells #[x, y] t (0, 0)) := by
  have h1 := row_setCell W g 0 x _ t _ h
  exact row_setCell _ g 1 y _ t _ h1
/-- What Births answers: the births, and the error. -/
def birthsAns (os : List Odr) (x : Int) : (Int × Int) × Int :=
  if ordersErr os = 0 then if 0 ≤ x ∧ x < os.length then if hasB (oAt os x.toNat) then ((bLo (oAt os x.toNat), bHi (oAt os x.toNat)), 0) else ((0, 0), 22) else ((0, 0), 2) else ((0, 0), ordersErr os)
def RangePost (a : (Int × Int) × Int) (w : World) (e : Ending) (w' : World) : Prop := e = .returned (.tuple #[.agg #[.int .i64 a.1.1, .int .i64 a.1.2], .int .i64 a.2]) ∧ Ext w w'
set_option maxRecDepth 100000 in
set_option maxHeartbeats 4000000 in
theorem births_any {A : Option Addr} {n c : Nat} {os : List Odr} {w : World} (h : IsOrders w A n c os) (x : Int) :
    Calls Tryz.prog 16 #[.slice A n c, .int .i64 x] w (RangePost (birthsAns os x) w) := by
  have hR0 : (w.alloc (.cells #[.int .i64 0, .int .i64 0] 26)).heap[w.heap.size]? = some (.cells #[.int .i64 0, .int .i64 0] 26 (0, 0)) := row_last _ _ _ rfl
  have hE0 : Ext w (w.alloc (.cells #[.int .i64 0, .int .i64 0] 26)) := ext_alloc _ _
  have h52 := opened_any (h.ext hE0)
  obtain ⟨E, hE⟩ : ∃ E, ordersErr os = E := ⟨_, rfl⟩
  obtain ⟨Z, hZ⟩ : ∃ Z, birthsAns os x = Z := ⟨_, rfl⟩
  have ha : Z = if E = 0 then if 0 ≤ x ∧ x < os.length then if hasB (oAt os x.toNat) then ((bLo (oAt os x.toNat), bHi (oAt os x.toNat)), 0) else ((0, 0), 22) else ((0, 0), 2) else ((0, 0), E) := by rw [← hZ, ← hE]; rfl
  rw [hZ]
  rw [hE] at h52
  have HA := Lib.hid ha
  have HR := Lib.hid hR0
  have HE0 := Lib.hid hE0
  clear ha hE hZ h hR0 hE0
  go_enter Tryz.func16, Tryz.ntmps16
  go_upto_region 1 with fail
  obtain ⟨w0, hw0⟩ : ∃ w0, w.alloc (.cells #[.int .i64 0, .int .i64 0] 26) = w0 := ⟨_, rfl⟩
  rw [hw0] at h52 HR HE0 ⊢
  obtain ⟨p, hp⟩ : ∃ p, w.heap.size = p := ⟨_, rfl⟩
  have HP := Lib.hid hp
  rw [hp] at HR ⊢
  clear hw0 hp
  go_wp2_with fail
  refine h52.mono ?_
  rintro e w1 ⟨e1, ⟨hn, rfl⟩ | ⟨rfl, A1, c1, rfl, hbk⟩⟩
  · have HE := Lib.hid (HE0.out.trans e1)
    have hr := row_ext HR.out e1
    have q0 : w1.cell? ⟨p, 0, none⟩ = some (.int .i64 0) := cell_of_row _ _ _ _ _ _ hr
    have q1 : w1.cell? ⟨p, 1, none⟩ = some (.int .i64 0) := cell_of_row _ _ _ _ _ _ hr
    have fz0 : w1.frozen? ⟨p, 0, none⟩ = false := by simp [World.frozen?, hr]
    have fz1 : w1.frozen? ⟨p, 1, none⟩ = false := by simp [World.frozen?, hr]
    have ha := HA.out
    rw [if_neg hn] at ha
    subst ha
    have HR1 := Lib.hid hr
    clear e1 h52 hr
    go_wp2
    refine bodyPost_ret (v := .tuple #[.agg #[.int .i64 0, .int .i64 0], .int .i64 E]) (results_cell_tmp 26 rfl _ _ p _ _ rfl rfl (run_loadVar_row (P := Tryz.prog) _ _ 26 26 _ (0, 0) _ (set2_row w1 p _ _ _ _ 26 HR1.out) Tryz.underlying26 rfl (by rw [size26]; rfl))) rfl ⟨rfl, set_kept (set_kept HE.out (Nat.le_of_eq HP.out)) (Nat.le_of_eq HP.out)⟩
  · have HE := Lib.hid (HE0.out.trans e1)
    have hr := row_ext HR.out e1
    replace HR := Lib.hid hr
    have ha := HA.out
    rw [if_pos rfl] at ha
    replace HA := Lib.hid ha
    have h53 := isOrder_any A1 os.length c1 x w1
    have HB := Lib.hid hbk
    clear e1 h52 hr ha hbk
    by_cases hx : 0 ≤ x ∧ x < os.length
    · rw [decide_eq_true hx.1, decide_eq_true hx.2] at h53
      have ha := HA.out
      rw [if_pos hx] at ha
      replace HA := Lib.hid ha
      clear ha
      obtain ⟨k, hk⟩ : ∃ k : Nat, x = k := ⟨x.toNat, by omega⟩
      subst hk
      have hkl : k < os.length := by omega
      have hklz : (k : Int) < (os.length : Int) := by omega
      have hoat := oAt_get hkl
      have ha := HA.out
      simp only [Int.toNat_natCast, hoat] at ha
      have h54 := fun W => hasBirths_any os[k] W
      obtain ⟨q, hq⟩ : ∃ q, hasB os[k] = q := ⟨_, rfl⟩
      simp only [hq] at h54 ha
      obtain ⟨o, ho⟩ : ∃ o, os[k] = o := ⟨_, rfl⟩
      rw [ho] at h54 ha
      have HO := Lib.hid ho
      clear hx hoat hq HA ho
      cases q with
      | true =>
        rw [if_pos rfl] at ha
        subst ha
        go_wp2_with (first | (refine h53.mono ?_; rintro e w2 ⟨rfl, e2⟩; have HE2 := Lib.hid (HE.out.trans (show Ext w1 w2 from e2)); have HR2 := Lib.hid (row_ext HR.out (show Ext w1 w2 from e2)); have HB2 := Lib.hid (HB.out.ext (show Ext w1 w2 from e2)); obtain ⟨b, off, rfl, hbl, c0, c1, c2, c3, c4, c5, c6⟩ := HB2.out.at hkl; rw [HO.out] at c0 c1 c2 c3 c4 c5 c6; clear e2 h53) | (refine (h54 _).mono ?_; rintro e w3 ⟨rfl, e3⟩; have HE3 := Lib.hid (HE2.out.trans (show Ext w2 w3 from e3)); have hr := row_ext HR2.out (show Ext w2 w3 from e3); have HR3 := Lib.hid hr; have d5 : w3.cell? ⟨b, off + k * 7 + 5, none⟩ = some (.int .i64 (bLo o)) := (Below.cell e3 (p := ⟨b, off + k * 7 + 5, none⟩) hbl).trans c5; have d6 : w3.cell? ⟨b, off + k * 7 + 6, none⟩ = some (.int .i64 (bHi o)) := (Below.cell e3 (p := ⟨b, off + k * 7 + 6, none⟩) hbl).trans c6; clear e3 c0 c1 c2 c3 c4 c5 c6; have q0 : w3.cell? ⟨p, 0, none⟩ = some (.int .i64 0) := cell_of_row _ _ _ _ _ _ hr; have q1 : w3.cell? ⟨p, 1, none⟩ = some (.int .i64 0) := cell_of_row _ _ _ _ _ _ hr; have fz0 : w3.frozen? ⟨p, 0, none⟩ = false := (by simp [World.frozen?, hr]); have fz1 : w3.frozen? ⟨p, 1, none⟩ = false := (by simp [World.frozen?, hr]); clear hr))
        refine bodyPost_ret (v := .tuple #[.agg #[.int .i64 (bLo o), .int .i64 (bHi o)], .int .i64 0]) (results_cell_tmp 26 rfl _ _ p _ _ rfl rfl (run_loadVar_row (P := Tryz.prog) _ _ 26 26 _ (0, 0) _ (set2_row w3 p _ _ _ _ 26 HR3.out) Tryz.underlying26 rfl (by rw [size26]; rfl))) rfl ⟨rfl, set_kept (set_kept HE3.out (Nat.le_of_eq HP.out)) (Nat.le_of_eq HP.out)⟩
      | false =>
        rw [if_neg (by decide)] at ha
        subst ha
        go_wp2_with (first | (refine h53.mono ?_; rintro e w2 ⟨rfl, e2⟩; have HE2 := Lib.hid (HE.out.trans (show Ext w1 w2 from e2)); have HR2 := Lib.hid (row_ext HR.out (show Ext w1 w2 from e2)); have HB2 := Lib.hid (HB.out.ext (show Ext w1 w2 from e2)); obtain ⟨b, off, rfl, hbl, c0, c1, c2, c3, c4, c5, c6⟩ := HB2.out.at hkl; rw [HO.out] at c0 c1 c2 c3 c4 c5 c6; clear e2 h53) | (refine (h54 _).mono ?_; rintro e w3 ⟨rfl, e3⟩; have HE3 := Lib.hid (HE2.out.trans (show Ext w2 w3 from e3)); have hr := row_ext HR2.out (show Ext w2 w3 from e3); have HR3 := Lib.hid hr; clear e3 c0 c1 c2 c3 c4 c5 c6; have q0 : w3.cell? ⟨p, 0, none⟩ = some (.int .i64 0) := cell_of_row _ _ _ _ _ _ hr; have q1 : w3.cell? ⟨p, 1, none⟩ = some (.int .i64 0) := cell_of_row _ _ _ _ _ _ hr; have fz0 : w3.frozen? ⟨p, 0, none⟩ = false := (by simp [World.frozen?, hr]); have fz1 : w3.frozen? ⟨p, 1, none⟩ = false := (by simp [World.frozen?, hr]); clear hr))
        refine bodyPost_ret (v := .tuple #[.agg #[.int .i64 0, .int .i64 0], .int .i64 22]) (results_cell_tmp 26 rfl _ _ p _ _ rfl rfl (run_loadVar_row (P := Tryz.prog) _ _ 26 26 _ (0, 0) _ (set2_row w3 p _ _ _ _ 26 HR3.out) Tryz.underlying26 rfl (by rw [size26]; rfl))) rfl ⟨rfl, set_kept (set_kept HE3.out (Nat.le_of_eq HP.out)) (Nat.le_of_eq HP.out)⟩
    · have hxd : (decide (0 ≤ x) && decide (x < (os.length : Int))) = false := by simp; omega
      rw [hxd] at h53
      have ha := HA.out
      rw [if_neg hx] at ha
      subst ha
      clear hx hxd
      go_wp2_with (refine h53.mono ?_; rintro e w2 ⟨rfl, e2⟩; have HE2 := Lib.hid (HE.out.trans (show Ext w1 w2 from e2)); have hr := row_ext HR.out (show Ext w1 w2 from e2); have q0 : w2.cell? ⟨p, 0, none⟩ = some (.int .i64 0) := cell_of_row _ _ _ _ _ _ hr; have q1 : w2.cell? ⟨p, 1, none⟩ = some (.int .i64 0) := cell_of_row _ _ _ _ _ _ hr; have fz0 : w2.frozen? ⟨p, 0, none⟩ = false := (by simp [World.frozen?, hr]); have fz1 : w2.frozen? ⟨p, 1, none⟩ = false := (by simp [World.frozen?, hr]); have HR2 := Lib.hid hr; clear e2 h53 hr)
      refine bodyPost_ret (v := .tuple #[.agg #[.int .i64 0, .int .i64 0], .int .i64 2]) (results_cell_tmp 26 rfl _ _ p _ _ rfl rfl (run_loadVar_row (P := Tryz.prog) _ _ 26 26 _ (0, 0) _ (set2_row w2 p _ _ _ _ 26 HR2.out) Tryz.underlying26 rfl (by rw [size26]; rfl))) rfl ⟨rfl, set_kept (set_kept HE2.out (Nat.le_of_eq HP.out)) (Nat.le_of_eq HP.out)⟩
end Go.Proofs.YtmlmnljbegcjcaaGreat

/- The reference: births, who does what; small functions of the verifier's. -/
namespace Go.Proofs.YtmlmnljbegcjcaaGreat
open Go.RowKit Go.Shelf
attribute [local irreducible] bitCells

/-- The cells of an order. -/
theorem IsOrders.at {w : World} {A : Option Addr} {n c : Nat} {os : List Odr} (h : IsOrders w A n c os) {j : Nat} (hj : j < os.length) : ∃ b off, A = some ⟨b, off, none⟩ ∧ b < w.heap.size ∧ w.cell? ⟨b, off + j * 5, none⟩ = some (.int .i64 os[j].lo) ∧ w.cell? ⟨b, off + j * 5 + 1, none⟩ = some (.int .i64 os[j].hi) ∧ w.cell? ⟨b, off + j * 5 + 2, none⟩ = some (.int .i64 os[j].young) ∧ w.cell? ⟨b, off + j * 5 + 3, none⟩ = some (.int .i64 os[j].old) ∧ w.cell? ⟨b, off + j * 5 + 4, none⟩ = some (.int .i64 os[j].worth) := by
  obtain ⟨b, off, hA, hb, hc⟩ := held_at h.held hj
  exact ⟨b, off, hA, hb, hc 0 _ rfl, hc 1 _ rfl, hc 2 _ rfl, hc 3 _ rfl, hc 4 _ rfl⟩

set_option maxRecDepth 100000 in
set_option maxHeartbeats 2000000 in
theorem birthsOf_any {A : Option Addr} {n c : Nat} {os : List Odr} {w : World} (h : IsOrders w A n c os) (hk : ∀ o, o ∈ os → ordOk o = true) (k : Nat) (hkl : k < os.length) :
    Calls Tryz.prog 56 #[.slice A n c, .int .i64 (k : Int)] w fun e w' => e = .returned (.agg #[.int .i64 (bLo os[k]), .int .i64 (bHi os[k])]) ∧ Ext w w' := by
  have hR0 : (w.alloc (.cells #[.int .i64 0, .int .i64 0] 26)).heap[w.heap.size]? = some (.cells #[.int .i64 0, .int .i64 0] 26 (0, 0)) := row_last _ _ _ rfl
  have hE0 : Ext w (w.alloc (.cells #[.int .i64 0, .int .i64 0] 26)) := ext_alloc _ _
  obtain ⟨b, off, rfl, hbl, c0, c1, c2, c3, c4⟩ := (h.ext hE0).at hkl
  obtain ⟨h1, h2, h3⟩ := ordOk_iff.1 (hk _ (List.getElem_mem hkl))
  have hn := h.len
  have hkn : (k : Int) < (n : Int) := by omega
  have hl : bLo os[k] = os[k].hi - os[k].old := rfl
  have hh : bHi os[k] = os[k].lo - os[k].young := rfl
  have w1 : IntKind.i64.wrap (os[k].hi - os[k].old) = os[k].hi - os[k].old := IntWalk.i64_in _ (by omega)
  have w2 : IntKind.i64.wrap (os[k].lo - os[k].young) = os[k].lo - os[k].young := IntWalk.i64_in _ (by omega)
  rw [hl, hh]
  obtain ⟨o, ho⟩ : ∃ o, os[k] = o := ⟨_, rfl⟩
  rw [ho] at c0 c1 c2 c3 c4 w1 w2
  rw [ho]
  have HR := Lib.hid hR0
  have HE0 := Lib.hid hE0
  clear ho h1 h2 h3 hl hh hR0 hE0 h hk hn
  obtain ⟨lo, hi, young, old, worth⟩ := o
  dsimp only at c0 c1 c2 c3 c4 w1 w2 ⊢
  go_enter Tryz.func56, Tryz.ntmps56
  go_upto_region 2 with fail
  obtain ⟨w0, hw0⟩ : ∃ w0, (w.alloc (.cells #[.int .i64 0, .int .i64 0] 26)).alloc (.cells #[.int .i64 lo, .int .i64 hi, .int .i64 young, .int .i64 old, .int .i64 worth] 56) = w0 := ⟨_, rfl⟩
  have hr := row_ext HR.out (ext_alloc _ (.cells #[.int .i64 lo, .int .i64 hi, .int .i64 young, .int .i64 old, .int .i64 worth] 56))
  have hr2 : w0.heap[w.heap.size + 1]? = some (.cells #[.int .i64 lo, .int .i64 hi, .int .i64 young, .int .i64 old, .int .i64 worth] 56 (0, 0)) := by rw [← hw0]; exact row_last _ _ _ (by simp)
  have hE1 : Ext w w0 := by rw [← hw0]; exact HE0.out.trans (ext_alloc _ _)
  rw [hw0] at hr ⊢
  obtain ⟨p, hp⟩ : ∃ p, w.heap.size = p := ⟨_, rfl⟩
  have HP := Lib.hid hp
  rw [hp] at hr hr2 ⊢
  have q0 : w0.cell? ⟨p, 0, none⟩ = some (.int .i64 0) := cell_of_row _ _ _ _ _ _ hr
  have q1 : w0.cell? ⟨p, 1, none⟩ = some (.int .i64 0) := cell_of_row _ _ _ _ _ _ hr
  have fz0 : w0.frozen? ⟨p, 0, none⟩ = false := by simp [World.frozen?, hr]
  have fz1 : w0.frozen? ⟨p, 1, none⟩ = false := by simp [World.frozen?, hr]
  have d0 : w0.cell? ⟨p + 1, 0, none⟩ = some (.int .i64 lo) := cell_of_row _ _ _ _ _ _ hr2
  have d1 : w0.cell? ⟨p + 1, 1, none⟩ = some (.int .i64 hi) := cell_of_row _ _ _ _ _ _ hr2
  have d2 : w0.cell? ⟨p + 1, 2, none⟩ = some (.int .i64 young) := cell_of_row _ _ _ _ _ _ hr2
  have d3 : w0.cell? ⟨p + 1, 3, none⟩ = some (.int .i64 old) := cell_of_row _ _ _ _ _ _ hr2
  have HR1 := Lib.hid hr
  have HE1 := Lib.hid hE1
  clear hr hr2 hE1 hw0 c0 c1 c2 c3 c4 hp HR
  go_wp2
  refine bodyPost_ret (v := .agg #[.int .i64 (hi - old), .int .i64 (lo - young)]) (results_row 26 rfl _ _ p _ rfl (run_loadVar_row (P := Tryz.prog) _ _ 26 26 _ (0, 0) _ (set2_row w0 p _ _ _ _ 26 HR1.out) Tryz.underlying26 rfl (by rw [size26]; rfl))) rfl ⟨rfl, set_kept (set_kept HE1.out (Nat.le_of_eq HP.out)) (Nat.le_of_eq HP.out)⟩

set_option maxHeartbeats 2000000 in
theorem made_any {A : Option Addr} {n c : Nat} {os : List Odr} {w : World} (h : IsOrders w A n c os) (hk : ∀ o, o ∈ os → ordOk o = true) (x : Int) (k : Nat) (hkl : k < os.length) :
    Calls Tryz.prog 59 #[.slice A n c, .int .i64 x, .int .i64 (k : Int)] w fun e w' => e = .returned (.bool (doneB x os[k])) ∧ Ext w w' := by
  have h56 := birthsOf_any h hk k hkl
  have hq : (decide (bLo os[k] ≤ x) && decide (x ≤ bHi os[k])) = doneB x os[k] := rfl
  obtain ⟨q, hqq⟩ : ∃ q, doneB x os[k] = q := ⟨_, rfl⟩
  obtain ⟨lo, hlo⟩ : ∃ lo, bLo os[k] = lo := ⟨_, rfl⟩
  obtain ⟨hi, hhi⟩ : ∃ hi, bHi os[k] = hi := ⟨_, rfl⟩
  rw [hlo, hhi] at h56
  rw [hlo, hhi, hqq] at hq
  rw [hqq]
  have HQ := Lib.hid hq
  clear hq hqq hlo hhi h hk hkl
  by_cases h1 : lo ≤ x
  · by_cases h2 : x ≤ hi
    · go_enter Tryz.func59, Tryz.ntmps59
      go_wp2_with (refine h56.mono ?_; rintro e w1 ⟨rfl, e1⟩; have HE := Lib.hid e1; clear e1 h56)
      go_ret
      exact ⟨ret_bool (by rw [← HQ.out, decide_eq_true h1, decide_eq_true h2]; rfl), HE.out.trans (ext_alloc _ _)⟩
    · go_enter Tryz.func59, Tryz.ntmps59
      go_wp2_with (refine h56.mono ?_; rintro e w1 ⟨rfl, e1⟩; have HE := Lib.hid e1; clear e1 h56)
      go_ret
      exact ⟨ret_bool (by rw [← HQ.out, decide_eq_false (by omega : ¬ x ≤ hi), Bool.and_false]), HE.out.trans (ext_alloc _ _)⟩
  · go_enter Tryz.func59, Tryz.ntmps59
    go_wp2_with (refine h56.mono ?_; rintro e w1 ⟨rfl, e1⟩; have HE := Lib.hid e1; clear e1 h56)
    go_ret
    exact ⟨ret_bool (by rw [← HQ.out, decide_eq_false (by omega : ¬ lo ≤ x), Bool.false_and]), HE.out.trans (ext_alloc _ _)⟩

set_option maxHeartbeats 2000000 in
theorem done72_any {A : Option Addr} {n c : Nat} {os : List Odr} {w : World} (h : IsOrders w A n c os) (hk : ∀ o, o ∈ os → ordOk o = true) (A' : Option Addr) (n' c' : Nat) (bs : List Int) (hn' : n' = bs.length) (_hm' : n' ≤ 9223372036854775807) (hh : Held w w.heap.size 1 encI A' bs) (k : Nat) (hkl : k < os.length) :
    Calls Tryz.prog 72 #[.slice A n c, .slice A' n' c', .int .i64 (k : Int)] w fun e w' => e = .returned (.bool (madeB bs os[k])) ∧ Ext w w' := by
  have HN := Lib.hid hn'
  have HH := Lib.hid hh
  have h59 := fun x W (hW : Ext w W) => made_any (h.ext hW) hk x k hkl
  obtain ⟨o, ho⟩ : ∃ o, os[k] = o := ⟨_, rfl⟩
  simp only [ho] at h59
  rw [ho]
  obtain ⟨q, hq⟩ : ∃ q, madeB bs o = q := ⟨_, rfl⟩
  rw [hq]
  have HQ := Lib.hid hq
  have H59 := Lib.hid h59
  clear hn' hh h59 ho hq h hk
  go_enter Tryz.func72, Tryz.ntmps72
  go_wp2
  go_loopw [7] (fun i wr => ∃ j : Nat, j ≤ n' ∧ i = .int .i64 j ∧ Hid (Ext w wr) ∧ Hid (∀ t (ht : t < bs.length), t < j → doneB bs[t] o = false)) (fun i _ => n' - (intOf i).toNat)
  case atStart => exact ⟨0, Nat.zero_le _, rfl, Lib.hid (Ext.refl _), Lib.hid fun t _ h => absurd h (by omega)⟩
  case round =>
    obtain ⟨j, hj, rfl, hB, hA⟩ := hrel
    by_cases hjn : j < n'
    · have hjz : (j : Int) < (n' : Int) := by omega
      have hjl : j < bs.length := by rw [← HN.out]; exact hjn
      obtain ⟨b, off, rfl, hc⟩ := int_get (HH.out.ext hB.out) hjl
      have h59 := H59.out bs[j] wr hB.out
      obtain ⟨x, hx⟩ : ∃ x, bs[j] = x := ⟨_, rfl⟩
      rw [hx] at hc h59
      have HX := Lib.hid hx
      obtain ⟨d, hd⟩ : ∃ d, doneB x o = d := ⟨_, rfl⟩
      rw [hd] at h59
      have HD := Lib.hid hd
      clear hx hd
      cases d with
      | true =>
        have hq : q = true := by rw [← HQ.out]; exact made_iff.2 ⟨bs[j], List.getElem_mem hjl, by rw [HX.out]; exact HD.out⟩
        subst hq
        go_wp2_with (refine h59.mono ?_; rintro e w1 ⟨rfl, e1⟩; have HE := Lib.hid (hB.out.trans e1); clear e1 h59)
        go_ret
        exact ⟨rfl, HE.out⟩
      | false =>
        go_wp2_with (refine h59.mono ?_; rintro e w1 ⟨rfl, e1⟩; have HE := Lib.hid (hB.out.trans e1); clear e1 h59)
        go_roundw
        case measure => simp [intOf]; omega
        case rel =>
          refine ⟨j + 1, by omega, by go_num, HE, Lib.hid fun t ht h => ?_⟩
          by_cases e : t = j
          · subst e; rw [HX.out]; exact HD.out
          · exact hA.out t ht (by omega)
    · have hjz : ¬ (j : Int) < (n' : Int) := by omega
      have hq : q = false := by
        rw [← HQ.out]
        cases hm : madeB bs o with
        | false => rfl
        | true =>
          obtain ⟨z, hz, hzd⟩ := made_iff.1 hm
          obtain ⟨t, ht, rfl⟩ := List.getElem_of_mem hz
          have := hA.out t ht (by have := HN.out; omega)
          rw [this] at hzd
          cases hzd
      subst hq
      go_wp2
      go_ret
      exact ⟨rfl, hB.out⟩
end Go.Proofs.YtmlmnljbegcjcaaGreat

/- CheckOrders, Births, Does, IsBaths, CheckBaths, Some of the reference. -/
namespace Go.Proofs.YtmlmnljbegcjcaaGreat
open Go.RowKit Go.Shelf
attribute [local irreducible] bitCells

def rangeB (x y : Int) : Bool := decide (0 ≤ x ∧ x ≤ y ∧ y ≤ 10000)
set_option maxHeartbeats 1000000 in
theorem isRange_any (x y : Int) (w : World) : Calls Tryz.prog 63 #[.agg #[.int .i64 x, .int .i64 y]] w fun e w' => e = .returned (.bool (rangeB x y)) ∧ Ext w w' := by
  obtain ⟨q, hq⟩ : ∃ q, rangeB x y = q := ⟨_, rfl⟩
  have hd : decide (0 ≤ x ∧ x ≤ y ∧ y ≤ 10000) = q := hq
  rw [hq]
  have HD := Lib.hid hd
  clear hq hd
  by_cases h1 : 0 ≤ x
  · by_cases h2 : x ≤ y
    · by_cases h3 : y ≤ 10000
      · go_enter Tryz.func63, Tryz.ntmps63
        go_wp2
        go_ret
        exact ⟨ret_bool (by rw [← HD.out, decide_eq_true (by omega)]), ext_alloc _ _⟩
      · go_enter Tryz.func63, Tryz.ntmps63
        go_wp2
        go_ret
        exact ⟨ret_bool (by rw [← HD.out, decide_eq_false (by omega)]), ext_alloc _ _⟩
    · go_enter Tryz.func63, Tryz.ntmps63
      go_wp2
      go_ret
      exact ⟨ret_bool (by rw [← HD.out, decide_eq_false (by omega)]), ext_alloc _ _⟩
  · go_enter Tryz.func63, Tryz.ntmps63
    go_wp2
    go_ret
    exact ⟨ret_bool (by rw [← HD.out, decide_eq_false (by omega)]), ext_alloc _ _⟩
theorem ordOk_is (o : Odr) : ordOk o = (rangeB o.lo o.hi && (rangeB o.young o.old && (decide (¬ o.worth < 0) && decide (¬ 100000 < o.worth)))) := by
  rw [Bool.eq_iff_iff, ordOk_iff]
  simp [rangeB]
theorem orders_bad {os : List Odr} (h1 : 1 ≤ os.length ∧ os.length ≤ 14) {j : Nat} (hj : j < os.length) (hb : ordOk os[j] = false) : ordersErr os = 3 := by
  unfold ordersErr
  rw [if_pos h1, if_neg]
  intro h
  have := List.all_eq_true.1 h _ (List.getElem_mem hj)
  rw [hb] at this
  cases this
theorem orders_good {os : List Odr} (h1 : 1 ≤ os.length ∧ os.length ≤ 14) (hb : ∀ j (hj : j < os.length), ordOk os[j] = true) : ordersErr os = 0 := by
  unfold ordersErr
  rw [if_pos h1, if_pos]
  rw [List.all_eq_true]
  intro o ho
  obtain ⟨j, hj, rfl⟩ := List.getElem_of_mem ho
  exact hb j hj
theorem orders_many {os : List Odr} (h1 : ¬ (1 ≤ os.length ∧ os.length ≤ 14)) : ordersErr os = 6 := by
  unfold ordersErr
  rw [if_neg h1]

set_option maxRecDepth 100000 in
set_option maxHeartbeats 4000000 in
theorem refCheck_any {A : Option Addr} {n c : Nat} {os : List Odr} {w : World} (h : IsOrders w A n c os) :
    Calls Tryz.prog 21 #[.slice A n c] w fun e w' => e = .returned (.int .i64 (ordersErr os)) ∧ Ext w w' := by
  have HO := Lib.hid h
  have HN := Lib.hid h.len
  obtain ⟨E, hE⟩ : ∃ E, ordersErr os = E := ⟨_, rfl⟩
  rw [hE]
  have HE := Lib.hid hE
  clear hE h
  by_cases hn1 : (n : Int) < 1
  · have hans : E = 6 := by rw [← HE.out]; exact orders_many (by have := HN.out; omega)
    subst hans
    go_enter Tryz.func21, Tryz.ntmps21
    go_wp2
    go_ret
    exact ⟨rfl, Ext.refl _⟩
  · by_cases hn2 : (14 : Int) < n
    · have hans : E = 6 := by rw [← HE.out]; exact orders_many (by have := HN.out; omega)
      subst hans
      go_enter Tryz.func21, Tryz.ntmps21
      go_wp2
      go_ret
      exact ⟨rfl, Ext.refl _⟩
    · have hn14 : 1 ≤ os.length ∧ os.length ≤ 14 := by have := HN.out; omega
      have HN14 := Lib.hid hn14
      clear hn14
      go_enter Tryz.func21, Tryz.ntmps21
      go_wp2
      go_loopw [3] (fun i wr => ∃ j : Nat, j ≤ n ∧ i = .int .i64 j ∧ Hid (Ext w wr) ∧ Hid (∀ t (ht : t < os.length), t < j → ordOk os[t] = true)) (fun i _ => n - (intOf i).toNat)
      case atStart => exact ⟨0, Nat.zero_le _, rfl, Lib.hid (Ext.refl _), Lib.hid fun t _ h => absurd h (by omega)⟩
      case round =>
        obtain ⟨j, hj, rfl, hB, hA⟩ := hrel
        by_cases hjn : j < n
        · have hjz : (j : Int) < (n : Int) := by omega
          have hjl : j < os.length := by rw [← HN.out]; exact hjn
          have hX := HO.out.ext hB.out
          obtain ⟨b, off, rfl, hbl, c0, c1, c2, c3, c4⟩ := hX.at hjl
          have hok := ordOk_is os[j]
          have hbad := fun hb => orders_bad HN14.out hjl hb
          rw [HE.out] at hbad
          have HOK : Hid (ordOk os[j] = true → ∀ t (ht : t < os.length), t < j + 1 → ordOk os[t] = true) := Lib.hid fun h0 t ht h => by
            by_cases e : t = j
            · subst e; exact h0
            · exact hA.out t ht (by omega)
          obtain ⟨o, ho⟩ : ∃ o, os[j] = o := ⟨_, rfl⟩
          rw [ho] at c0 c1 c2 c3 c4 hok hbad
          have HO2 := Lib.hid ho
          clear hX ho
          have r1 := fun W => isRange_any o.lo o.hi W
          have r2 := fun W => isRange_any o.young o.old W
          obtain ⟨q1, hq1⟩ : ∃ q1, rangeB o.lo o.hi = q1 := ⟨_, rfl⟩
          obtain ⟨q2, hq2⟩ : ∃ q2, rangeB o.young o.old = q2 := ⟨_, rfl⟩
          simp only [hq1] at r1 hok
          simp only [hq2] at r2 hok
          have HOK2 := Lib.hid hok
          have HBAD := Lib.hid hbad
          clear hok hbad hq1 hq2
          cases q1 with
          | false =>
            have hans := HBAD.out (by rw [HOK2.out]; rfl)
            subst hans
            go_wp2_with (refine (r1 _).mono ?_; rintro e w1 ⟨rfl, e1⟩; have HE1 := Lib.hid (hB.out.trans e1); clear e1)
            go_ret
            exact ⟨rfl, HE1.out⟩
          | true =>
            cases q2 with
            | false =>
              have hans := HBAD.out (by rw [HOK2.out]; rfl)
              subst hans
              go_wp2_with (first | (refine (r1 _).mono ?_; rintro e w1 ⟨rfl, e1⟩; have HE1 := Lib.hid (hB.out.trans e1); have c2 := (Below.cell e1 (p := ⟨b, off + j * 5 + 2, none⟩) hbl).trans c2; have c3 := (Below.cell e1 (p := ⟨b, off + j * 5 + 3, none⟩) hbl).trans c3; clear e1 r1) | (refine (r2 _).mono ?_; rintro e w2 ⟨rfl, e2⟩; have HE2 := Lib.hid (HE1.out.trans e2); clear e2 r2))
              go_ret
              exact ⟨rfl, HE2.out⟩
            | true =>
              by_cases g1 : o.worth < 0
              · have hans := HBAD.out (by rw [HOK2.out, decide_eq_false (by omega : ¬ ¬ o.worth < 0)]; rfl)
                subst hans
                go_wp2_with (first | (refine (r1 _).mono ?_; rintro e w1 ⟨rfl, e1⟩; have HE1 := Lib.hid (hB.out.trans e1); have c2 := (Below.cell e1 (p := ⟨b, off + j * 5 + 2, none⟩) hbl).trans c2; have c3 := (Below.cell e1 (p := ⟨b, off + j * 5 + 3, none⟩) hbl).trans c3; have c4 := (Below.cell e1 (p := ⟨b, off + j * 5 + 4, none⟩) hbl).trans c4; have hbl := Nat.lt_of_lt_of_le hbl e1.size; clear e1 r1) | (refine (r2 _).mono ?_; rintro e w2 ⟨rfl, e2⟩; have HE2 := Lib.hid (HE1.out.trans e2); have c4 := (Below.cell e2 (p := ⟨b, off + j * 5 + 4, none⟩) hbl).trans c4; clear e2 r2))
                go_ret
                exact ⟨rfl, HE2.out⟩
              · by_cases g2 : 100000 < o.worth
                · have hans := HBAD.out (by rw [HOK2.out, decide_eq_false (by omega : ¬ ¬ 100000 < o.worth)]; simp)
                  subst hans
                  go_wp2_with (first | (refine (r1 _).mono ?_; rintro e w1 ⟨rfl, e1⟩; have HE1 := Lib.hid (hB.out.trans e1); have c2 := (Below.cell e1 (p := ⟨b, off + j * 5 + 2, none⟩) hbl).trans c2; have c3 := (Below.cell e1 (p := ⟨b, off + j * 5 + 3, none⟩) hbl).trans c3; have c4 := (Below.cell e1 (p := ⟨b, off + j * 5 + 4, none⟩) hbl).trans c4; have hbl := Nat.lt_of_lt_of_le hbl e1.size; clear e1 r1) | (refine (r2 _).mono ?_; rintro e w2 ⟨rfl, e2⟩; have HE2 := Lib.hid (HE1.out.trans e2); have c4 := (Below.cell e2 (p := ⟨b, off + j * 5 + 4, none⟩) hbl).trans c4; clear e2 r2))
                  go_ret
                  exact ⟨rfl, HE2.out⟩
                · have hok := HOK2.out
                  rw [decide_eq_true g1, decide_eq_true g2] at hok
                  have hall := HOK.out (by rw [HO2.out]; exact hok)
                  have HALL := Lib.hid hall
                  clear hok hall
                  go_wp2_with (first | (refine (r1 _).mono ?_; rintro e w1 ⟨rfl, e1⟩; have HE1 := Lib.hid (hB.out.trans e1); have c2 := (Below.cell e1 (p := ⟨b, off + j * 5 + 2, none⟩) hbl).trans c2; have c3 := (Below.cell e1 (p := ⟨b, off + j * 5 + 3, none⟩) hbl).trans c3; have c4 := (Below.cell e1 (p := ⟨b, off + j * 5 + 4, none⟩) hbl).trans c4; have hbl := Nat.lt_of_lt_of_le hbl e1.size; clear e1 r1) | (refine (r2 _).mono ?_; rintro e w2 ⟨rfl, e2⟩; have HE2 := Lib.hid (HE1.out.trans e2); have c4 := (Below.cell e2 (p := ⟨b, off + j * 5 + 4, none⟩) hbl).trans c4; clear e2 r2))
                  go_roundw
                  case measure => simp [intOf]; omega
                  case rel => exact ⟨j + 1, by omega, by go_num, HE2, HALL⟩
        · have hjz : ¬ (j : Int) < (n : Int) := by omega
          have hans : E = 0 := by
            rw [← HE.out]
            exact orders_good HN14.out fun t ht => hA.out t ht (by have := HN.out; omega)
          subst hans
          go_wp2
          go_ret
          exact ⟨rfl, hB.out⟩
end Go.Proofs.YtmlmnljbegcjcaaGreat
