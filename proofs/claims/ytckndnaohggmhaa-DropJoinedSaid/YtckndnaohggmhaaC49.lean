/- Texts of the package drop, joined: Fine, ToldPure, Told, TwoOps, Two. -/
import Derived.Test.YtckndnaohggmhaaC8
import Derived.Test.YtckndnaohggmhaaC15
import Derived.Test.YtckndnaohggmhaaC27
import Derived.IntWalk
import Derived.Deep.Cut
/- DropTold's helpers: fine, place, Truth. -/
namespace Go.Proofs.Ytckndnaohggmhaa
open Go.RowKit Go.Shelf

/-- A bath that is valid, or not. -/
def fineB (Wd : Int) (ss : List (Int × Int)) (ds : List (Int × Int × Int)) : Bool := decide (bathErr Wd ss ds = 0)
def encU (x : Int) : List Value := [.int .u16 x]

section
variable {w : World} {Wd : Int} {A : Option Addr} {n c : Nat} {A' : Option Addr} {n' c' : Nat} {ss : List (Int × Int)} {ds : List (Int × Int × Int)}

set_option maxHeartbeats 1000000 in
theorem fine_any (hb : IsBath w w.heap.size A n c A' n' c' ss ds) :
    Calls Try.prog 41 #[.agg #[.int .i64 Wd, .slice A n c, .slice A' n' c']] w fun e w' => e = .returned (.bool (fineB Wd ss ds)) ∧ Ext w w' := by
  have hX0 : BathAt (w.alloc (.cells #[.int .i64 Wd, .slice A n c, .slice A' n' c'] 25)) w.heap.size Wd A n c A' n' c' ss ds := BathAt.new hb
  have hE0 : Ext w (w.alloc (.cells #[.int .i64 Wd, .slice A n c, .slice A' n' c'] 25)) := ext_alloc w _
  have cG := great_any Wd A A' n c n' c' (w.alloc (.cells #[.int .i64 Wd, .slice A n c, .slice A' n' c'] 25))
  cases hg : (decide (15 < n) || decide (50 < n')) with
  | true =>
    have hf : fineB Wd ss ds = false := by
      refine decide_eq_false fun h => ?_
      have := (bath_ok h).2.1
      have := hb.nss
      have := hb.nds
      simp only [Bool.or_eq_true, decide_eq_true_eq] at hg
      omega
    rw [hg] at cG
    rw [hf]
    clear hg hb hX0 hf
    go_enter Try.func41, Try.ntmps41
    go_wp2_with fail
    refine cG.mono ?_
    rintro e w1 ⟨rfl, hb1⟩
    have hE1 := Lib.hid (hE0.trans hb1)
    clear hE0 hb1 cG
    go_wp2
    go_ret
    exact ⟨rfl, hE1.out⟩
  | false =>
    rw [hg] at cG
    have cB : ∀ W : World, IsBath W W.heap.size A n c A' n' c' ss ds → _ := fun W h => checkBath_ref (Wd := Wd) h
    obtain ⟨r, hr⟩ : ∃ r, bathErr Wd ss ds = r := ⟨_, rfl⟩
    have hf : fineB Wd ss ds = (r == 0) := by unfold fineB; rw [hr]; rfl
    rw [hf]
    rw [hr] at cB
    clear hg hb hr hf
    go_enter Try.func41, Try.ntmps41
    go_wp2_with fail
    refine cG.mono ?_
    rintro e w1 ⟨rfl, hb1⟩
    have hX1 := hX0.ext hb1
    have hE1 := hE0.trans hb1
    clear hE0 hb1 cG hX0
    obtain ⟨q0, q1, q2⟩ := hX1.cells
    go_wp2_with fail
    refine (cB _ hX1.bath).mono ?_
    rintro e w2 ⟨rfl, hb2⟩
    have hE2 := Lib.hid (hE1.trans hb2)
    clear hX1 hE1 hb2 q0 q1 q2 cB
    go_wp2
    go_ret
    exact ⟨rfl, hE2.out⟩

/-- What a place is by a number. -/
def placeOf (n : Nat) (x : Int) : Int := x % ((n : Int) + 2) - 2
theorem placeOf_bd (n : Nat) (x : Int) : -2 ≤ placeOf n x ∧ placeOf n x < n := by
  have h1 := Int.emod_nonneg x (show ((n : Int) + 2) ≠ 0 by omega)
  have h2 := Int.emod_lt_of_pos x (show 0 < (n : Int) + 2 by omega)
  unfold placeOf
  omega

set_option maxHeartbeats 1000000 in
theorem place_any (x : Int) (hx : 0 ≤ x ∧ x ≤ 255) (hn : n ≤ 10) (w : World) :
    Calls Try.prog 105 #[.agg #[.int .i64 Wd, .slice A n c, .slice A' n' c'], .int .u8 x] w fun e w' => e = .returned (.int .i64 (placeOf n x)) ∧ Ext w w' := by
  have hE0 : Ext w (w.alloc (.cells #[.int .i64 Wd, .slice A n c, .slice A' n' c'] 25)) := ext_alloc w _
  have hp := placeOf_bd n x
  unfold placeOf at hp ⊢
  have hne : ¬ (n : Int) + 2 = 0 := by omega
  go_enter Try.func105, Try.ntmps105
  go_wp2
  go_ret
  exact ⟨rfl, hE0⟩

/-- The i-th number of a truth. -/
def truthAt (bs : List Int) (i : Nat) (d : Int × Int × Int) : Int := if bs = [] then d.2.1 else d.2.1 + bs.getD (i % bs.length) 0 % (d.2.2 - d.2.1 + 1)
def truthTo (bs : List Int) (ds : List (Int × Int × Int)) (k : Nat) : List Int := (List.range k).map fun i => truthAt bs i (ds.getD i (0, 0, 0))
theorem truthTo_succ (bs : List Int) (ds : List (Int × Int × Int)) (k : Nat) : truthTo bs ds (k + 1) = truthTo bs ds k ++ [truthAt bs k (ds.getD k (0, 0, 0))] := by
  unfold truthTo
  rw [List.range_succ, List.map_append]
  rfl
theorem truthTo_len (bs : List Int) (ds : List (Int × Int × Int)) (k : Nat) : (truthTo bs ds k).length = k := by simp [truthTo]
theorem truthAt_bd {bs : List Int} {d : Int × Int × Int} (i : Nat) (h : d.2.1 ≤ d.2.2) : d.2.1 ≤ truthAt bs i d ∧ truthAt bs i d ≤ d.2.2 := by
  unfold truthAt
  split
  · omega
  · have h1 := Int.emod_nonneg (bs.getD (i % bs.length) 0) (show d.2.2 - d.2.1 + 1 ≠ 0 by omega)
    have h2 := Int.emod_lt_of_pos (bs.getD (i % bs.length) 0) (show 0 < d.2.2 - d.2.1 + 1 by omega)
    omega
theorem held_at {α : Type} {W : World} {k : Nat} {enc : α → List Value} {L : Option Addr} {xs : List α} (h : Held W W.heap.size k enc L xs) {i : Nat} {x : α} (hi : xs[i]? = some x) : ∃ b off, L = some ⟨b, off, none⟩ ∧ ∀ j u, (enc x)[j]? = some u → W.cell? ⟨b, off + i * k + j, none⟩ = some u := by
  rcases h with e | ⟨b, off, rfl, _, hc⟩
  · rw [e] at hi; simp at hi
  · exact ⟨b, off, rfl, fun j u hu => hc i x hi j u hu⟩
theorem drop_in {Wd : Int} (h0 : bathErr Wd ss ds = 0) {k : Nat} (hk : k < ds.length) : 1 ≤ (ds.getD k (0, 0, 0)).2.1 ∧ (ds.getD k (0, 0, 0)).2.1 ≤ (ds.getD k (0, 0, 0)).2.2 ∧ (ds.getD k (0, 0, 0)).2.2 ≤ 10000 ∧ 0 ≤ (ds.getD k (0, 0, 0)).1 ∧ (ds.getD k (0, 0, 0)).1 < ss.length := by
  have h1 := List.all_eq_true.1 (bath_ok h0).2.2.2.2 ds[k] (List.getElem_mem hk)
  rw [show ds.getD k (0, 0, 0) = ds[k] from by simp [List.getElem?_eq_getElem hk]]
  simp only [dropOk, inside, Bool.and_eq_true, decide_eq_true_eq, List.all_cons, List.all_nil] at h1
  omega

set_option maxRecDepth 100000 in
set_option maxHeartbeats 4000000 in
theorem truth_any (L : Option Addr) (m cL : Nat) (bs : List Int) (h0 : bathErr Wd ss ds = 0) (hb : IsBath w w.heap.size A n c A' n' c' ss ds) (hm : m = bs.length) (hm60 : m ≤ 60) (hL : Held w w.heap.size 1 encU L bs) (hbd : ∀ i, 0 ≤ bs.getD i 0 ∧ bs.getD i 0 ≤ 65535) :
    Calls Try.prog 42 #[.agg #[.int .i64 Wd, .slice A n c, .slice A' n' c'], .slice L m cL] w fun e w' => ∃ v, e = .returned v ∧ Made64 w.heap.size (truthTo bs ds n') w' v ∧ Ext w w' := by
  obtain ⟨i0, hi, hz0, hz1, hz2⟩ := info_parts info2
  have HI := Lib.hid hi
  have HZ0 := Lib.hid hz0
  have HZ1 := Lib.hid hz1
  have HZ2 := Lib.hid hz2
  have hX0 := BathAt.new (Wd := Wd) hb
  have HND := Lib.hid hb.nds
  have hn40 : n' ≤ 40 := by have := (bath_ok h0).2.1.2; have := hb.nds; omega
  have HM := Lib.hid hm
  have HBD := Lib.hid hbd
  have HD0 := Lib.hid (fun k (hk : k < ds.length) => drop_in h0 hk)
  have hL0 := hL.ext (ext_alloc w (.cells #[.int .i64 Wd, .slice A n c, .slice A' n' c'] 25))
  clear hi hz0 hz1 hz2 hb h0 hm hbd hL
  go_enter Try.func42, Try.ntmps42
  go_wp2
  obtain ⟨w0, hw0⟩ : ∃ w0, w.alloc (.cells #[.int .i64 Wd, .slice A n c, .slice A' n' c'] 25) = w0 := ⟨_, rfl⟩
  have e0 : Ext w w0 := by rw [← hw0]; exact ext_alloc w _
  have z0 : w0.heap.size = w.heap.size + 1 := by rw [← hw0]; simp
  rw [hw0] at hX0 hL0 ⊢
  have E0 := Lib.hid e0
  have H0 := Lib.hid hX0
  have HL := Lib.hid hL0
  clear hw0 e0 hX0 hL0
  go_loopw [5, 6, 7, 8] (fun v i _ _ wr => ∃ k : Nat, k ≤ n' ∧ i = .int .i64 k ∧ Hid (Ext w0 wr) ∧ Hid (Made64 (w.heap.size + 1) (truthTo bs ds k) wr v)) (fun _ i _ _ _ => n' - (intOf i).toNat)
  case atStart => exact ⟨0, Nat.zero_le _, rfl, Lib.hid (Ext.refl _), Lib.hid ⟨World.ownsRow_nil _ _ _ _, fun _ => rfl⟩⟩
  case round =>
    obtain ⟨k, hk, rfl, hB, hO⟩ := hrel
    have hsz := hB.out.size
    have hx := H0.out.ext hB.out
    obtain ⟨q0, q1, q2⟩ := hx.cells
    by_cases hlt : k < n'
    · have hltz : (k : Int) < (n' : Int) := by omega
      obtain ⟨b, off, rfl, d0, d1, d2⟩ := hx.drop hlt
      clear q0 q1
      obtain ⟨g1, g2, g3, _, _⟩ := HD0.out k (by rw [← HND.out]; exact hlt)
      obtain ⟨d, hd⟩ : ∃ d, ds.getD k (0, 0, 0) = d := ⟨_, rfl⟩
      have hs : truthTo bs ds (k + 1) = truthTo bs ds k ++ [truthAt bs k d] := by rw [truthTo_succ, hd]
      rw [hd] at d0 d1 d2 g1 g2 g3
      obtain ⟨sp, lo, hi⟩ := d
      simp only at d0 d1 d2 g1 g2 g3
      have HS := Lib.hid hs
      have hl : (truthTo bs ds k).length ≤ 40 := by rw [truthTo_len]; omega
      clear hd hs hx d0
      by_cases hm0 : m = 0
      · subst hm0
        have hz : ¬ (0 : Int) < ((0 : Nat) : Int) := by omega
        have hx : truthAt bs k (sp, lo, hi) = lo := by
          unfold truthAt
          rw [if_pos (List.eq_nil_of_length_eq_zero HM.out.symm)]
        rw [hx] at HS
        go_upto_region 9 with fail
        obtain ⟨wc, hwc, hC⟩ : ∃ wc, wr.alloc (.cells #[.int .i64 lo, .int .i64 hi] 29) = wc ∧ Ext wr wc := ⟨_, rfl, ext_alloc wr _⟩
        rw [hwc]
        have hcz := hC.size
        have hBC := Lib.hid (hB.out.trans hC)
        have hOC := Lib.hid (⟨owns_below hO.out.1 hC, hO.out.2⟩ : Made64 (w.heap.size + 1) (truthTo bs ds k) wc u5)
        clear hwc hC hB hO q2 d1 d2
        go_wp2_with (first | (at_builtin; refine wpList_append_own _ rfl (.tmp 44) (.tmp 46) 55 rfl (w.heap.size + 1) 2 i0 (.int .i64 0) 1 8 Try.underlying55 HI.out HZ0.out HZ1.out HZ2.out rfl (by decide) _ (truthTo bs ds k).length _ rfl (hOC.out.1.alloc _) ⟨wc.heap.size, 0, none⟩ 1 1 [.int .i64 lo] rfl rfl (cell_one_new _ _ _) (one_cell' _) ?c3 ?c4 ?c5 ?_))
        case c3 => unfold maxLen; omega
        case c4 => omega
        case c5 => first | omega | (simp; omega)
        · intro v' w1 hown' hgrow _
          have hB1 : Hid (Ext w0 w1) := Lib.hid (((hBC.out.alloc (by have := hBC.out.size; omega) (.cells #[.int .i64 lo] 2)).grown hgrow (by simp; omega) (fun b e => by have := (hOC.out.1.lt b e).1; omega)))
          have hO1 : Hid (Made64 (w.heap.size + 1) (truthTo bs ds (k + 1)) w1 v') := Lib.hid ⟨by
            rw [HS.out, List.length_append, List.map_append]
            simpa using hown', fun e => by rw [HS.out] at e; simp at e⟩
          clear hown' hgrow hOC hBC
          go_wp2
          go_roundw
          case measure => simp [intOf]; omega
          case rel => exact ⟨k + 1, by omega, by go_num, hB1, hO1⟩
      · have hz : (0 : Int) < (m : Int) := by omega
        have hjm : k % m < m := Nat.mod_lt _ (by omega)
        have hj0 : 0 ≤ (k : Int) % (m : Int) := by omega
        have hj1 : (k : Int) % (m : Int) < (m : Int) := by omega
        have hjn : ((k : Int) % (m : Int)).toNat = k % m := by omega
        obtain ⟨bv, hbv⟩ : ∃ bv, bs.getD (k % m) 0 = bv := ⟨_, rfl⟩
        have hbd := HBD.out (k % m)
        rw [hbv] at hbd
        have hget : bs[k % m]? = some bv := by
          rw [← hbv, List.getD_eq_getElem?_getD, List.getElem?_eq_getElem (by rw [← HM.out]; exact hjm)]
          rfl
        obtain ⟨bL, oL, hLe, hcell⟩ := held_at (HL.out.ext hB.out) hget
        have hc := hcell 0 _ rfl
        rw [Nat.mul_one, Nat.add_zero] at hc
        have hbl : bL < wr.heap.size := World.block_lt_of_cell? _ _ hc
        have hbn : bL ≠ wr.heap.size := by omega
        have hx : truthAt bs k (sp, lo, hi) = lo + bv % (hi - lo + 1) := by
          unfold truthAt
          rw [if_neg (by intro e; have := HM.out; rw [e] at this; simp at this; omega), ← HM.out, hbv]
        rw [hx] at HS
        have hmo : 0 ≤ bv % (hi - lo + 1) ∧ bv % (hi - lo + 1) ≤ hi - lo := ⟨Int.emod_nonneg _ (by omega), by have := Int.emod_lt_of_pos bv (show 0 < hi - lo + 1 by omega); omega⟩
        have hne1 : ¬ hi - lo + 1 = 0 := by omega
        have hne2 : ¬ (m : Int) = 0 := by omega
        obtain ⟨hmo1, hmo2⟩ := hmo
        obtain ⟨hbd1, hbd2⟩ := hbd
        subst hLe
        clear hcell hget hx hbv
        go_wp2
        go_quiet (fail)
        obtain ⟨wc, hwc, hC⟩ : ∃ wc, (wr.alloc (.cells #[.int .i64 lo, .int .i64 hi] 29)).drewN nq = wc ∧ Ext wr wc := ⟨_, rfl, bdrewN (ext_alloc wr _) _⟩
        rw [hwc]
        have hcz := hC.size
        have hBC := Lib.hid (hB.out.trans hC)
        have hOC := Lib.hid (⟨owns_below hO.out.1 hC, hO.out.2⟩ : Made64 (w.heap.size + 1) (truthTo bs ds k) wc u5)
        clear hwc hC hB hO q2 d1 d2
        go_wp2_with (first | (at_builtin; refine wpList_append_own _ rfl (.tmp 44) (.tmp 46) 55 rfl (w.heap.size + 1) 2 i0 (.int .i64 0) 1 8 Try.underlying55 HI.out HZ0.out HZ1.out HZ2.out rfl (by decide) _ (truthTo bs ds k).length _ rfl (hOC.out.1.alloc _) ⟨wc.heap.size, 0, none⟩ 1 1 [.int .i64 (lo + bv % (hi - lo + 1))] rfl rfl (cell_one_new _ _ _) (one_cell' _) ?c3 ?c4 ?c5 ?_))
        case c3 => unfold maxLen; omega
        case c4 => omega
        case c5 => first | omega | (simp; omega)
        · intro v' w1 hown' hgrow _
          have hB1 : Hid (Ext w0 w1) := Lib.hid (((hBC.out.alloc (by have := hBC.out.size; omega) (.cells #[.int .i64 (lo + bv % (hi - lo + 1))] 2)).grown hgrow (by simp; omega) (fun b e => by have := (hOC.out.1.lt b e).1; omega)))
          have hO1 : Hid (Made64 (w.heap.size + 1) (truthTo bs ds (k + 1)) w1 v') := Lib.hid ⟨by
            rw [HS.out, List.length_append, List.map_append]
            simpa using hown', fun e => by rw [HS.out] at e; simp at e⟩
          clear hown' hgrow hOC hBC
          go_wp2
          go_roundw
          case measure => simp [intOf]; omega
          case rel => exact ⟨k + 1, by omega, by go_num, hB1, hO1⟩
    · have hltz : ¬ (k : Int) < (n' : Int) := by omega
      obtain rfl : k = n' := by omega
      clear hx
      go_wp2
      go_ret
      exact ⟨_, rfl, ⟨owns_mono hO.out.1 (by omega), hO.out.2⟩, E0.out.trans hB.out⟩
end
end Go.Proofs.Ytckndnaohggmhaa

/- A truth lies between the ends: sizes, and what touches. -/
namespace Go.Proofs.Ytckndnaohggmhaa
open Go.RowKit Go.Shelf

/-- A list of numbers, one for each drop, between the ends. -/
def Between (ds : List (Int × Int × Int)) (ts : List Int) : Prop := ts.length = ds.length ∧ ∀ k, k < ds.length → (ds.getD k (0, 0, 0)).2.1 ≤ ts.getD k 0 ∧ ts.getD k 0 ≤ (ds.getD k (0, 0, 0)).2.2

theorem endOf_getD (high : Bool) (ds : List (Int × Int × Int)) {k : Nat} (hk : k < ds.length) : (ds.map (endOf high)).getD k 0 = endOf high (ds.getD k (0, 0, 0)) := by
  simp [List.getElem?_eq_getElem hk]

theorem sumAt_le (ds : List (Int × Int × Int)) (ts us : List Int) (x : Int) : ∀ k : Nat, (∀ j, j < k → ts.getD j 0 ≤ us.getD j 0) → sumAt ds ts x k ≤ sumAt ds us x k
  | 0, _ => by simp [sumAt]
  | k + 1, h => by
    have h1 := sumAt_le ds ts us x k (fun j hj => h j (by omega))
    have h2 := h k (by omega)
    simp only [sumAt]
    split <;> omega

section
variable {Wd : Int} {ss : List (Int × Int)} {ds : List (Int × Int × Int)} {ts : List Int}
theorem between_bd (h0 : bathErr Wd ss ds = 0) (hb : Between ds ts) (k : Nat) : 0 ≤ ts.getD k 0 ∧ ts.getD k 0 ≤ 10000 := by
  by_cases hk : k < ds.length
  · have h1 := hb.2 k hk
    have h2 := drop_in h0 hk
    omega
  · rw [show ts.getD k 0 = 0 from by simp [List.getElem?_eq_none (show ts.length ≤ k by have := hb.1; omega)]]
    omega
theorem between_low (hb : Between ds ts) (x : Int) : sumAt ds (ds.map (endOf false)) x ds.length ≤ sumAt ds ts x ds.length :=
  sumAt_le _ _ _ _ _ fun j hj => by rw [endOf_getD _ _ hj]; exact (hb.2 j hj).1
theorem between_high (hb : Between ds ts) (x : Int) : sumAt ds ts x ds.length ≤ sumAt ds (ds.map (endOf true)) x ds.length :=
  sumAt_le _ _ _ _ _ fun j hj => by rw [endOf_getD _ _ hj]; exact (hb.2 j hj).2
theorem low_pos (h0 : bathErr Wd ss ds = 0) (x : Int) : 0 ≤ sumAt ds (ds.map (endOf false)) x ds.length :=
  (sumAt_bd ds _ x (ends_bd (bath_few h0) false) ds.length).1

/-- What touches with the least truth touches with each, and with the greatest. -/
theorem meet_low (h0 : bathErr Wd ss ds = 0) (hb : Between ds ts) (one two : Int) (h : meetB Wd ss (fun j => sumAt ds (ds.map (endOf false)) j ds.length) one two = true) : meetB Wd ss (fun j => sumAt ds ts j ds.length) one two = true :=
  meetB_mono Wd ss _ _ (fun _i => low_pos h0 _) (fun _i => between_low hb _) one two h
theorem meet_high (h0 : bathErr Wd ss ds = 0) (hb : Between ds ts) (one two : Int) (h : meetB Wd ss (fun j => sumAt ds ts j ds.length) one two = true) : meetB Wd ss (fun j => sumAt ds (ds.map (endOf true)) j ds.length) one two = true :=
  meetB_mono Wd ss _ _ (fun _i => Int.le_trans (low_pos h0 _) (between_low hb _)) (fun _i => between_high hb _) one two h
theorem kindOf_ends (one two : Int) : kindOf Wd ss (sizes ds) one two = if meetB Wd ss (fun j => sumAt ds (ds.map (endOf false)) j ds.length) one two then 2 else if meetB Wd ss (fun j => sumAt ds (ds.map (endOf true)) j ds.length) one two then 1 else 0 := by
  rw [meet_ends, meet_ends]
  unfold kindOf
  simp
theorem truth_between (h0 : bathErr Wd ss ds = 0) (bs : List Int) : Between ds (truthTo bs ds ds.length) := by
  refine ⟨truthTo_len _ _ _, fun k hk => ?_⟩
  have e : (truthTo bs ds ds.length).getD k 0 = truthAt bs k (ds.getD k (0, 0, 0)) := by
    simp [truthTo, hk]
  rw [e]
  exact truthAt_bd k (drop_in h0 hk).2.1
end
end Go.Proofs.Ytckndnaohggmhaa

/- The verifier's told: each operation of its drawing region, and the walk. -/
namespace Go.Proofs.Ytckndnaohggmhaa
open Go.RowKit Go.Shelf

def told44D (k : Nat) : Tmp := if k = 12 then 11 else if k = 13 then 12 else 14 + k
def toldS (Wd : Int) (A : Option Addr) (n c : Nat) (A' : Option Addr) (n' c' : Nat) (ds : List (Int × Int × Int)) (one two : Int) (r1 r2 : Bool) (k : Nat) (v : Value) (W : World) : Prop :=
  match k with
  | 2 => IntsAt (ds.map (endOf false)) v W
  | 8 => IntsAt (ds.map (endOf true)) v W
  | 3 => v = .int .i64 one
  | 9 => v = .int .i64 one
  | 4 => v = .int .i64 two
  | 10 => v = .int .i64 two
  | 5 => v = .bool r1
  | 12 => v = .bool r1
  | 11 => v = .bool r2
  | 13 => v = .bool r2
  | _ => v = (.agg #[.int .i64 Wd, .slice A n c, .slice A' n' c'] : Value)
theorem toldS_ext (Wd : Int) (A : Option Addr) (n c : Nat) (A' : Option Addr) (n' c' : Nat) (ds : List (Int × Int × Int)) (one two : Int) (r1 r2 : Bool) (k : Nat) (v : Value) (W W' : World) (h : toldS Wd A n c A' n' c' ds one two r1 r2 k v W) (e : Below W.heap.size W W') : toldS Wd A n c A' n' c' ds one two r1 r2 k v W' := by
  unfold toldS at h ⊢
  split at h <;> first | exact h | exact IntsAt.ext h e
noncomputable def toldReg : Array Oper := (Try.f44.body.bind (regionOf · 1)).getD #[]
def ToldOk (Wd : Int) (A : Option Addr) (n c : Nat) (A' : Option Addr) (n' c' : Nat) (ds : List (Int × Int × Int)) (one two : Int) (r1 r2 : Bool) (Q : Exit → Act → World → Prop) (a : Act) (W : World) (k : Nat) (o : Oper) : Prop :=
  (∀ j b, o.guard = some (j, b) → a.eval (.tmp (told44D j)) = .bool b) ∧ o.wp Try.prog a W (fun a'' W' => ∃ v, a'' = a.put o.dst v ∧ toldS Wd A n c A' n' c' ds one two r1 r2 k v W' ∧ Below W.heap.size W W') Q

section
variable {Wd : Int} {A : Option Addr} {n c : Nat} {A' : Option Addr} {n' c' : Nat} {ss : List (Int × Int)} {ds : List (Int × Int × Int)} {one two : Int} {r1 r2 : Bool} {p : Nat} {Q : Exit → Act → World → Prop} {a : Act} {V W : World} {o : Oper}
theorem told_op0 (o5 : a.eval (.tmp 5) = .pointer (some ⟨p, 0, none⟩)) (hx : BathAt V p Wd A n c A' n' c' ss ds) (hB : Ext V W) (ho : toldReg[0]? = some o) : ToldOk Wd A n c A' n' c' ds one two r1 r2 Q a W 0 o := by
  have hop := op_at ho (·.op) (x := .load 25 (.tmp 5)) (by kernel_rfl)
  have hgd := op_at ho (·.guard) (x := none) (by kernel_rfl)
  refine ⟨fun j b h => (by rw [hgd] at h; cases h), ?_⟩
  obtain ⟨q0, q1, q2⟩ := (hx.ext hB).cells
  exact specs_value (R := toldS Wd A n c A' n' c' ds one two r1 r2 0) (v := (.agg #[.int .i64 Wd, .slice A n c, .slice A' n' c'] : Value)) (by simp [execOp, hop, go_sem, ev o5, q0, q1, q2]) rfl (Ext.refl W)
theorem told_op1 (o5 : a.eval (.tmp 5) = .pointer (some ⟨p, 0, none⟩)) (hx : BathAt V p Wd A n c A' n' c' ss ds) (hB : Ext V W) (ho : toldReg[1]? = some o) : ToldOk Wd A n c A' n' c' ds one two r1 r2 Q a W 1 o := by
  have hop := op_at ho (·.op) (x := .load 25 (.tmp 5)) (by kernel_rfl)
  have hgd := op_at ho (·.guard) (x := none) (by kernel_rfl)
  refine ⟨fun j b h => (by rw [hgd] at h; cases h), ?_⟩
  obtain ⟨q0, q1, q2⟩ := (hx.ext hB).cells
  exact specs_value (R := toldS Wd A n c A' n' c' ds one two r1 r2 1) (v := (.agg #[.int .i64 Wd, .slice A n c, .slice A' n' c'] : Value)) (by simp [execOp, hop, go_sem, ev o5, q0, q1, q2]) rfl (Ext.refl W)
theorem told_op2 (h0 : bathErr Wd ss ds = 0) (hx : BathAt V p Wd A n c A' n' c' ss ds) (hB : Ext V W) (haft : ∀ j, (o.after.any fun e => decide (e.on = j) && Region.binds .any e) = true → toldS Wd A n c A' n' c' ds one two r1 r2 j (a.eval (.tmp (told44D j))) W) (ho : toldReg[2]? = some o) : ToldOk Wd A n c A' n' c' ds one two r1 r2 Q a W 2 o := by
  have hop := op_at ho (·.op) (x := .call { callee := .value (.func 61), args := #[.tmp 15, .const (.bool false)], argTypes := #[25, 4] }) (by kernel_rfl)
  have hgd := op_at ho (·.guard) (x := none) (by kernel_rfl)
  have e1 : a.eval (.tmp 15) = (.agg #[.int .i64 Wd, .slice A n c, .slice A' n' c'] : Value) := haft 1 (op_at ho (fun o => o.after.any fun e => decide (e.on = 1) && Region.binds .any e) (x := true) (by kernel_rfl))
  refine ⟨fun j b h => (by rw [hgd] at h; cases h), ?_⟩
  have hX := hx.ext hB
  have hc := ends_ref (Wd := Wd) false hX.bath (by have := (bath_ok h0).2.1.2; have := hX.bath.nds; omega)
  exact specs_call (R := toldS Wd A n c A' n' c' ds one two r1 r2 2) (f := 61) (args := #[(.agg #[.int .i64 Wd, .slice A n c, .slice A' n' c'] : Value), .bool false]) (by simp [execOp, hop, go_sem, ev e1]) (hc.mono fun e w' h => by
    obtain ⟨v, rfl, hM, hE⟩ := h
    exact ⟨v, rfl, made64_held hM, hE⟩)
theorem told_op3 (o2 : a.eval (.tmp 2) = .int .i64 one) (ho : toldReg[3]? = some o) : ToldOk Wd A n c A' n' c' ds one two r1 r2 Q a W 3 o := by
  have hop := op_at ho (·.op) (x := .move (.tmp 2)) (by kernel_rfl)
  have hgd := op_at ho (·.guard) (x := none) (by kernel_rfl)
  refine ⟨fun j b h => (by rw [hgd] at h; cases h), ?_⟩
  exact specs_value (R := toldS Wd A n c A' n' c' ds one two r1 r2 3) (v := .int .i64 one) (by simp [execOp, hop, go_sem, ev o2]) rfl (Ext.refl W)
theorem told_op4 (o3 : a.eval (.tmp 3) = .int .i64 two) (ho : toldReg[4]? = some o) : ToldOk Wd A n c A' n' c' ds one two r1 r2 Q a W 4 o := by
  have hop := op_at ho (·.op) (x := .move (.tmp 3)) (by kernel_rfl)
  have hgd := op_at ho (·.guard) (x := none) (by kernel_rfl)
  refine ⟨fun j b h => (by rw [hgd] at h; cases h), ?_⟩
  exact specs_value (R := toldS Wd A n c A' n' c' ds one two r1 r2 4) (v := .int .i64 two) (by simp [execOp, hop, go_sem, ev o3]) rfl (Ext.refl W)
theorem told_op5 (h0 : bathErr Wd ss ds = 0) (h1 : -2 ≤ one) (h1' : one < n) (h2 : -2 ≤ two) (h2' : two < n) (hne : one ≠ two) (hr : meetB Wd ss (fun j => sumAt ds (ds.map (endOf false)) j n') one two = r1) (hx : BathAt V p Wd A n c A' n' c' ss ds) (hB : Ext V W) (haft : ∀ j, (o.after.any fun e => decide (e.on = j) && Region.binds .any e) = true → toldS Wd A n c A' n' c' ds one two r1 r2 j (a.eval (.tmp (told44D j))) W) (ho : toldReg[5]? = some o) : ToldOk Wd A n c A' n' c' ds one two r1 r2 Q a W 5 o := by
  have hop := op_at ho (·.op) (x := .call { callee := .value (.func 46), args := #[.tmp 14, .tmp 16, .tmp 17, .tmp 18], argTypes := #[25, 55, 3, 3] }) (by kernel_rfl)
  have hgd := op_at ho (·.guard) (x := none) (by kernel_rfl)
  have e0 : a.eval (.tmp 14) = (.agg #[.int .i64 Wd, .slice A n c, .slice A' n' c'] : Value) := haft 0 (op_at ho (fun o => o.after.any fun e => decide (e.on = 0) && Region.binds .any e) (x := true) (by kernel_rfl))
  obtain ⟨T, cT, e2, hT⟩ := haft 2 (op_at ho (fun o => o.after.any fun e => decide (e.on = 2) && Region.binds .any e) (x := true) (by kernel_rfl))
  rw [show told44D 2 = 16 from rfl] at e2
  have e3 : a.eval (.tmp 17) = .int .i64 one := haft 3 (op_at ho (fun o => o.after.any fun e => decide (e.on = 3) && Region.binds .any e) (x := true) (by kernel_rfl))
  have e4 : a.eval (.tmp 18) = .int .i64 two := haft 4 (op_at ho (fun o => o.after.any fun e => decide (e.on = 4) && Region.binds .any e) (x := true) (by kernel_rfl))
  refine ⟨fun j b h => (by rw [hgd] at h; cases h), ?_⟩
  have hX := hx.ext hB
  have hc := touches_ref (Wd := Wd) T _ cT (ds.map (endOf false)) (bath_few h0) hX.bath rfl (by rw [List.length_map, hX.bath.nds]; exact Nat.le_refl _) (by rw [List.length_map]; have := (bath_ok h0).2.1.2; omega) hT (ends_bd (bath_few h0) false) one two h1 h1' h2 h2' hne
  rw [hr] at hc
  exact specs_call (R := toldS Wd A n c A' n' c' ds one two r1 r2 5) (f := 46) (args := #[(.agg #[.int .i64 Wd, .slice A n c, .slice A' n' c'] : Value), .slice T (ds.map (endOf false)).length cT, .int .i64 one, .int .i64 two]) (by simp [execOp, hop, go_sem, ev e0, ev e2, ev e3, ev e4]) (hc.mono fun e w' h => ⟨_, h.1, rfl, h.2⟩)
theorem told_op6 (o5 : a.eval (.tmp 5) = .pointer (some ⟨p, 0, none⟩)) (hx : BathAt V p Wd A n c A' n' c' ss ds) (hB : Ext V W) (ho : toldReg[6]? = some o) : ToldOk Wd A n c A' n' c' ds one two r1 r2 Q a W 6 o := by
  have hop := op_at ho (·.op) (x := .load 25 (.tmp 5)) (by kernel_rfl)
  have hgd := op_at ho (·.guard) (x := none) (by kernel_rfl)
  refine ⟨fun j b h => (by rw [hgd] at h; cases h), ?_⟩
  obtain ⟨q0, q1, q2⟩ := (hx.ext hB).cells
  exact specs_value (R := toldS Wd A n c A' n' c' ds one two r1 r2 6) (v := (.agg #[.int .i64 Wd, .slice A n c, .slice A' n' c'] : Value)) (by simp [execOp, hop, go_sem, ev o5, q0, q1, q2]) rfl (Ext.refl W)
theorem told_op7 (o5 : a.eval (.tmp 5) = .pointer (some ⟨p, 0, none⟩)) (hx : BathAt V p Wd A n c A' n' c' ss ds) (hB : Ext V W) (ho : toldReg[7]? = some o) : ToldOk Wd A n c A' n' c' ds one two r1 r2 Q a W 7 o := by
  have hop := op_at ho (·.op) (x := .load 25 (.tmp 5)) (by kernel_rfl)
  have hgd := op_at ho (·.guard) (x := none) (by kernel_rfl)
  refine ⟨fun j b h => (by rw [hgd] at h; cases h), ?_⟩
  obtain ⟨q0, q1, q2⟩ := (hx.ext hB).cells
  exact specs_value (R := toldS Wd A n c A' n' c' ds one two r1 r2 7) (v := (.agg #[.int .i64 Wd, .slice A n c, .slice A' n' c'] : Value)) (by simp [execOp, hop, go_sem, ev o5, q0, q1, q2]) rfl (Ext.refl W)
theorem told_op8 (h0 : bathErr Wd ss ds = 0) (hx : BathAt V p Wd A n c A' n' c' ss ds) (hB : Ext V W) (haft : ∀ j, (o.after.any fun e => decide (e.on = j) && Region.binds .any e) = true → toldS Wd A n c A' n' c' ds one two r1 r2 j (a.eval (.tmp (told44D j))) W) (ho : toldReg[8]? = some o) : ToldOk Wd A n c A' n' c' ds one two r1 r2 Q a W 8 o := by
  have hop := op_at ho (·.op) (x := .call { callee := .value (.func 61), args := #[.tmp 21, .const (.bool true)], argTypes := #[25, 4] }) (by kernel_rfl)
  have hgd := op_at ho (·.guard) (x := none) (by kernel_rfl)
  have e7 : a.eval (.tmp 21) = (.agg #[.int .i64 Wd, .slice A n c, .slice A' n' c'] : Value) := haft 7 (op_at ho (fun o => o.after.any fun e => decide (e.on = 7) && Region.binds .any e) (x := true) (by kernel_rfl))
  refine ⟨fun j b h => (by rw [hgd] at h; cases h), ?_⟩
  have hX := hx.ext hB
  have hc := ends_ref (Wd := Wd) true hX.bath (by have := (bath_ok h0).2.1.2; have := hX.bath.nds; omega)
  exact specs_call (R := toldS Wd A n c A' n' c' ds one two r1 r2 8) (f := 61) (args := #[(.agg #[.int .i64 Wd, .slice A n c, .slice A' n' c'] : Value), .bool true]) (by simp [execOp, hop, go_sem, ev e7]) (hc.mono fun e w' h => by
    obtain ⟨v, rfl, hM, hE⟩ := h
    exact ⟨v, rfl, made64_held hM, hE⟩)
theorem told_op9 (o2 : a.eval (.tmp 2) = .int .i64 one) (ho : toldReg[9]? = some o) : ToldOk Wd A n c A' n' c' ds one two r1 r2 Q a W 9 o := by
  have hop := op_at ho (·.op) (x := .move (.tmp 2)) (by kernel_rfl)
  have hgd := op_at ho (·.guard) (x := none) (by kernel_rfl)
  refine ⟨fun j b h => (by rw [hgd] at h; cases h), ?_⟩
  exact specs_value (R := toldS Wd A n c A' n' c' ds one two r1 r2 9) (v := .int .i64 one) (by simp [execOp, hop, go_sem, ev o2]) rfl (Ext.refl W)
theorem told_op10 (o3 : a.eval (.tmp 3) = .int .i64 two) (ho : toldReg[10]? = some o) : ToldOk Wd A n c A' n' c' ds one two r1 r2 Q a W 10 o := by
  have hop := op_at ho (·.op) (x := .move (.tmp 3)) (by kernel_rfl)
  have hgd := op_at ho (·.guard) (x := none) (by kernel_rfl)
  refine ⟨fun j b h => (by rw [hgd] at h; cases h), ?_⟩
  exact specs_value (R := toldS Wd A n c A' n' c' ds one two r1 r2 10) (v := .int .i64 two) (by simp [execOp, hop, go_sem, ev o3]) rfl (Ext.refl W)
theorem told_op11 (h0 : bathErr Wd ss ds = 0) (h1 : -2 ≤ one) (h1' : one < n) (h2 : -2 ≤ two) (h2' : two < n) (hne : one ≠ two) (hr : meetB Wd ss (fun j => sumAt ds (ds.map (endOf true)) j n') one two = r2) (hx : BathAt V p Wd A n c A' n' c' ss ds) (hB : Ext V W) (haft : ∀ j, (o.after.any fun e => decide (e.on = j) && Region.binds .any e) = true → toldS Wd A n c A' n' c' ds one two r1 r2 j (a.eval (.tmp (told44D j))) W) (ho : toldReg[11]? = some o) : ToldOk Wd A n c A' n' c' ds one two r1 r2 Q a W 11 o := by
  have hop := op_at ho (·.op) (x := .call { callee := .value (.func 46), args := #[.tmp 20, .tmp 22, .tmp 23, .tmp 24], argTypes := #[25, 55, 3, 3] }) (by kernel_rfl)
  have hgd := op_at ho (·.guard) (x := none) (by kernel_rfl)
  have e6 : a.eval (.tmp 20) = (.agg #[.int .i64 Wd, .slice A n c, .slice A' n' c'] : Value) := haft 6 (op_at ho (fun o => o.after.any fun e => decide (e.on = 6) && Region.binds .any e) (x := true) (by kernel_rfl))
  obtain ⟨T, cT, e8, hT⟩ := haft 8 (op_at ho (fun o => o.after.any fun e => decide (e.on = 8) && Region.binds .any e) (x := true) (by kernel_rfl))
  rw [show told44D 8 = 22 from rfl] at e8
  have e9 : a.eval (.tmp 23) = .int .i64 one := haft 9 (op_at ho (fun o => o.after.any fun e => decide (e.on = 9) && Region.binds .any e) (x := true) (by kernel_rfl))
  have e10 : a.eval (.tmp 24) = .int .i64 two := haft 10 (op_at ho (fun o => o.after.any fun e => decide (e.on = 10) && Region.binds .any e) (x := true) (by kernel_rfl))
  refine ⟨fun j b h => (by rw [hgd] at h; cases h), ?_⟩
  have hX := hx.ext hB
  have hc := touches_ref (Wd := Wd) T _ cT (ds.map (endOf true)) (bath_few h0) hX.bath rfl (by rw [List.length_map, hX.bath.nds]; exact Nat.le_refl _) (by rw [List.length_map]; have := (bath_ok h0).2.1.2; omega) hT (ends_bd (bath_few h0) true) one two h1 h1' h2 h2' hne
  rw [hr] at hc
  exact specs_call (R := toldS Wd A n c A' n' c' ds one two r1 r2 11) (f := 46) (args := #[(.agg #[.int .i64 Wd, .slice A n c, .slice A' n' c'] : Value), .slice T (ds.map (endOf true)).length cT, .int .i64 one, .int .i64 two]) (by simp [execOp, hop, go_sem, ev e6, ev e8, ev e9, ev e10]) (hc.mono fun e w' h => ⟨_, h.1, rfl, h.2⟩)
theorem told_op12 (haft : ∀ j, (o.after.any fun e => decide (e.on = j) && Region.binds .any e) = true → toldS Wd A n c A' n' c' ds one two r1 r2 j (a.eval (.tmp (told44D j))) W) (ho : toldReg[12]? = some o) : ToldOk Wd A n c A' n' c' ds one two r1 r2 Q a W 12 o := by
  have hop := op_at ho (·.op) (x := .assign (.tmp 19)) (by kernel_rfl)
  have hgd := op_at ho (·.guard) (x := none) (by kernel_rfl)
  have e5 : a.eval (.tmp 19) = .bool r1 := haft 5 (op_at ho (fun o => o.after.any fun e => decide (e.on = 5) && Region.binds .any e) (x := true) (by kernel_rfl))
  refine ⟨fun j b h => (by rw [hgd] at h; cases h), ?_⟩
  exact specs_value (R := toldS Wd A n c A' n' c' ds one two r1 r2 12) (v := .bool r1) (by simp [execOp, hop, go_sem, ev e5]) rfl (Ext.refl W)
theorem told_op13 (haft : ∀ j, (o.after.any fun e => decide (e.on = j) && Region.binds .any e) = true → toldS Wd A n c A' n' c' ds one two r1 r2 j (a.eval (.tmp (told44D j))) W) (ho : toldReg[13]? = some o) : ToldOk Wd A n c A' n' c' ds one two r1 r2 Q a W 13 o := by
  have hop := op_at ho (·.op) (x := .assign (.tmp 25)) (by kernel_rfl)
  have hgd := op_at ho (·.guard) (x := none) (by kernel_rfl)
  have e11 : a.eval (.tmp 25) = .bool r2 := haft 11 (op_at ho (fun o => o.after.any fun e => decide (e.on = 11) && Region.binds .any e) (x := true) (by kernel_rfl))
  refine ⟨fun j b h => (by rw [hgd] at h; cases h), ?_⟩
  exact specs_value (R := toldS Wd A n c A' n' c' ds one two r1 r2 13) (v := .bool r2) (by simp [execOp, hop, go_sem, ev e11]) rfl (Ext.refl W)
set_option maxRecDepth 100000 in
set_option maxHeartbeats 4000000 in
theorem told_any {w : World} (T : Option Addr) (m cT : Nat) (ts : List Int) (one two k : Int) (h0 : bathErr Wd ss ds = 0) (hb : IsBath w w.heap.size A n c A' n' c' ss ds) (hm : m = ts.length) (hbt : Between ds ts) (ht : Held w w.heap.size 1 encI T ts) (h1 : -2 ≤ one) (h1' : one < n) (h2 : -2 ≤ two) (h2' : two < n) (hne : one ≠ two) (hk : kindOf Wd ss (sizes ds) one two = k) :
    Calls Try.prog 44 #[.agg #[.int .i64 Wd, .slice A n c, .slice A' n' c'], .slice T m cT, .int .i64 one, .int .i64 two, .int .i64 k] w fun e w' => e = .returned (.bool true) ∧ Ext w w' := by
  have hm' : n' ≤ m := by have := hb.nds; have := hbt.1; omega
  have hm40 : m ≤ 40 := by have := (bath_ok h0).2.1.2; have := hbt.1; omega
  have cT3 : ∀ W : World, Ext w W → IsBath W W.heap.size A n c A' n' c' ss ds → Calls Try.prog 46 #[.agg #[.int .i64 Wd, .slice A n c, .slice A' n' c'], .slice T m cT, .int .i64 one, .int .i64 two] W fun e w' => e = .returned (.bool (meetB Wd ss (fun j => sumAt ds ts j n') one two)) ∧ Ext W w' := fun W hE hW => touches_ref T m cT ts (bath_few h0) hW hm hm' (by omega) (ht.ext hE) (between_bd h0 hbt) one two h1 h1' h2 h2' hne
  have hlow := meet_low h0 hbt one two
  have hhigh := meet_high h0 hbt one two
  rw [kindOf_ends] at hk
  rw [← hb.nds] at hlow hhigh hk
  obtain ⟨r1, hr1⟩ : ∃ r, meetB Wd ss (fun j => sumAt ds (ds.map (endOf false)) j n') one two = r := ⟨_, rfl⟩
  obtain ⟨r2, hr2⟩ : ∃ r, meetB Wd ss (fun j => sumAt ds (ds.map (endOf true)) j n') one two = r := ⟨_, rfl⟩
  obtain ⟨r3, hr3⟩ : ∃ r, meetB Wd ss (fun j => sumAt ds ts j n') one two = r := ⟨_, rfl⟩
  rw [hr1, hr2] at hk
  rw [hr1, hr3] at hlow
  rw [hr3, hr2] at hhigh
  rw [hr3] at cT3
  have hX0 := BathAt.new (Wd := Wd) hb
  obtain ⟨w0, hw0⟩ : ∃ w0, w.alloc (.cells #[.int .i64 Wd, .slice A n c, .slice A' n' c'] 25) = w0 := ⟨_, rfl⟩
  have e0 : Ext w w0 := by rw [← hw0]; exact ext_alloc w _
  rw [hw0] at hX0
  have HW := Lib.hid hw0
  have HX := Lib.hid hX0
  have HE := Lib.hid e0
  have HB0 := Lib.hid h0
  have HR1 := Lib.hid hr1
  have HR2 := Lib.hid hr2
  have CT := Lib.hid cT3
  have HK := Lib.hid hk
  have HLO := Lib.hid hlow
  have HHI := Lib.hid hhigh
  clear hw0 hX0 e0 h0 hr1 hr2 hr3 cT3 hk hlow hhigh hb hm hbt ht hm' hm40
  go_enter Try.func44, Try.ntmps44
  go_upto_region 1 with fail
  rw [HW.out]
  clear HW
  generalize w.heap.size = p0 at HX ⊢
  refine wp_region_specs (ops := toldReg) (toldS Wd A n c A' n' c' ds one two r1 r2) (Ext w0) (by kernel_rfl) (by kernel_rfl) ⟨rfl, rfl, rfl, Nat.le_refl _, fun _ _ => rfl⟩ (fun _ _ h e => h.trans e) (toldS_ext Wd A n c A' n' c' ds one two r1 r2) told44D (by kernel_rfl) ?_ ?_
  · intro k o ho a W hB hsz hold haft
    have hk : k < 14 := (Array.getElem?_eq_some_iff.1 ho).1
    match k, hk with
    | 0, _ => exact told_op0 (hold 5 (by kernel_rfl)) HX.out hB ho
    | 1, _ => exact told_op1 (hold 5 (by kernel_rfl)) HX.out hB ho
    | 2, _ => exact told_op2 HB0.out HX.out hB haft ho
    | 3, _ => exact told_op3 (hold 2 (by kernel_rfl)) ho
    | 4, _ => exact told_op4 (hold 3 (by kernel_rfl)) ho
    | 5, _ => exact told_op5 HB0.out h1 h1' h2 h2' hne HR1.out HX.out hB haft ho
    | 6, _ => exact told_op6 (hold 5 (by kernel_rfl)) HX.out hB ho
    | 7, _ => exact told_op7 (hold 5 (by kernel_rfl)) HX.out hB ho
    | 8, _ => exact told_op8 HB0.out HX.out hB haft ho
    | 9, _ => exact told_op9 (hold 2 (by kernel_rfl)) ho
    | 10, _ => exact told_op10 (hold 3 (by kernel_rfl)) ho
    | 11, _ => exact told_op11 HB0.out h1 h1' h2 h2' hne HR2.out HX.out hB haft ho
    | 12, _ => exact told_op12 haft ho
    | 13, _ => exact told_op13 haft ho
    | k + 14, h => exact absurd h (by omega)
  · intro a W hB hsz hdf hold hS
    have hsize : 14 = toldReg.size := by kernel_rfl
    obtain ⟨T2, c2, e2, _⟩ : IntsAt (ds.map (endOf false)) (a.eval (.tmp 16)) W := hS 2 (by rw [← hsize]; omega)
    obtain ⟨T8, c8, e8, _⟩ : IntsAt (ds.map (endOf true)) (a.eval (.tmp 22)) W := hS 8 (by rw [← hsize]; omega)
    have hall : ∀ x, x ∈ ([(14, (.agg #[.int .i64 Wd, .slice A n c, .slice A' n' c'] : Value)), (15, (.agg #[.int .i64 Wd, .slice A n c, .slice A' n' c'] : Value)), (16, .slice T2 (ds.map (endOf false)).length c2), (17, .int .i64 one), (18, .int .i64 two), (19, .bool r1), (20, (.agg #[.int .i64 Wd, .slice A n c, .slice A' n' c'] : Value)), (21, (.agg #[.int .i64 Wd, .slice A n c, .slice A' n' c'] : Value)), (22, .slice T8 (ds.map (endOf true)).length c8), (23, .int .i64 one), (24, .int .i64 two), (25, .bool r2), (11, .bool r1), (12, .bool r2)] : List (Tmp × Value)) → x.1 < 60 ∧ a.eval (.tmp x.1) = x.2 := by
      intro x hx
      simp only [List.mem_cons, List.not_mem_nil, or_false] at hx
      rcases hx with rfl | rfl | rfl | rfl | rfl | rfl | rfl | rfl | rfl | rfl | rfl | rfl | rfl | rfl
      · exact ⟨(show (14 : Nat) < 60 by omega), hS 0 (by rw [← hsize]; omega)⟩
      · exact ⟨(show (15 : Nat) < 60 by omega), hS 1 (by rw [← hsize]; omega)⟩
      · exact ⟨(show (16 : Nat) < 60 by omega), e2⟩
      · exact ⟨(show (17 : Nat) < 60 by omega), hS 3 (by rw [← hsize]; omega)⟩
      · exact ⟨(show (18 : Nat) < 60 by omega), hS 4 (by rw [← hsize]; omega)⟩
      · exact ⟨(show (19 : Nat) < 60 by omega), hS 5 (by rw [← hsize]; omega)⟩
      · exact ⟨(show (20 : Nat) < 60 by omega), hS 6 (by rw [← hsize]; omega)⟩
      · exact ⟨(show (21 : Nat) < 60 by omega), hS 7 (by rw [← hsize]; omega)⟩
      · exact ⟨(show (22 : Nat) < 60 by omega), e8⟩
      · exact ⟨(show (23 : Nat) < 60 by omega), hS 9 (by rw [← hsize]; omega)⟩
      · exact ⟨(show (24 : Nat) < 60 by omega), hS 10 (by rw [← hsize]; omega)⟩
      · exact ⟨(show (25 : Nat) < 60 by omega), hS 11 (by rw [← hsize]; omega)⟩
      · exact ⟨(show (11 : Nat) < 60 by omega), hS 12 (by rw [← hsize]; omega)⟩
      · exact ⟨(show (12 : Nat) < 60 by omega), hS 13 (by rw [← hsize]; omega)⟩
    have ha := act_puts hsz hdf hall (fun t ht => hold t (all_ne_of (l := [(14, (.agg #[.int .i64 Wd, .slice A n c, .slice A' n' c'] : Value)), (15, (.agg #[.int .i64 Wd, .slice A n c, .slice A' n' c'] : Value)), (16, .slice T2 (ds.map (endOf false)).length c2), (17, .int .i64 one), (18, .int .i64 two), (19, .bool r1), (20, (.agg #[.int .i64 Wd, .slice A n c, .slice A' n' c'] : Value)), (21, (.agg #[.int .i64 Wd, .slice A n c, .slice A' n' c'] : Value)), (22, .slice T8 (ds.map (endOf true)).length c8), (23, .int .i64 one), (24, .int .i64 two), (25, .bool r2), (11, .bool r1), (12, .bool r2)]) (by kernel_rfl) ht))
    clear hall hS hold hsz hdf e2 e8 hsize
    rw [ha]
    clear ha
    simp only [Exit.then, puts, List.foldl_cons, List.foldl_nil, Act.put, List.setIfInBounds_toArray, List.set_cons_succ, List.set_cons_zero]
    go_at_K
    have HE2 := Lib.hid (HE.out.trans hB)
    have hX2 := HX.out.ext hB
    have cT := CT.out W HE2.out hX2.bath
    obtain ⟨q0, q1, q2⟩ := hX2.cells
    clear HX HE hB HR1 HR2 CT
    go_wp2_with fail
    refine cT.mono ?_
    rintro e w3 ⟨rfl, e3⟩
    have HE3 := Lib.hid (HE2.out.trans e3)
    clear HE2 hX2 q0 q1 q2 cT e3
    cases r1 with
    | true =>
      obtain rfl : r3 = true := HLO.out rfl
      obtain rfl : r2 = true := HHI.out rfl
      have hk2 : k = 2 := by have := HK.out; simpa using this.symm
      subst hk2
      clear HK HLO HHI
      go_wp2
      go_ret
      exact ⟨rfl, HE3.out⟩
    | false =>
      cases r2 with
      | true =>
        have hk2 : k = 1 := by have := HK.out; simpa using this.symm
        subst hk2
        clear HK HLO HHI
        go_wp2
        go_ret
        exact ⟨rfl, HE3.out⟩
      | false =>
        have hk2 : k = 0 := by have := HK.out; simpa using this.symm
        subst hk2
        obtain rfl : r3 = false := by
          cases r3 with
          | false => rfl
          | true => exact absurd (HHI.out rfl) (by simp)
        clear HK HLO HHI
        go_wp2
        go_ret
        exact ⟨rfl, HE3.out⟩
end
end Go.Proofs.Ytckndnaohggmhaa

/- DropTold's helper two: what each operation yields. -/
namespace Go.Proofs.Ytckndnaohggmhaa
open Go.RowKit Go.Shelf

/-- The slots. -/
def twoAD (i : Nat) : Tmp := if i = 8 then 6 else if i = 9 then 7 else 8 + i
/-- What each operation yields. -/
def twoAV (Wd : Int) (A : Option Addr) (n c : Nat) (A' : Option Addr) (n' c' : Nat) (_ss : List (Int × Int)) (_ds : List (Int × Int × Int)) (_p pb : Nat) (x y pa qa : Int) (ix : Nat) : Value :=
  match ix with
  | 0 => (.agg #[.int .i64 Wd, .slice A n c, .slice A' n' c'])
  | 1 => .pointer (some ⟨pb, 0, none⟩)
  | 2 => .int .u8 x
  | 3 => .int .i64 pa
  | 4 => (.agg #[.int .i64 Wd, .slice A n c, .slice A' n' c'])
  | 5 => .pointer (some ⟨pb, 1, none⟩)
  | 6 => .int .u8 y
  | 7 => .int .i64 qa
  | 8 => .int .i64 pa
  | 9 => .int .i64 qa
  | _ => .bool true
noncomputable def twoAReg : Array Oper := (Try.f43.body.bind (regionOf · 1)).getD #[]
def twoAOk (Wd : Int) (A : Option Addr) (n c : Nat) (A' : Option Addr) (n' c' : Nat) (ss : List (Int × Int)) (ds : List (Int × Int × Int)) (p pb : Nat) (x y pa qa : Int) (Q : Exit → Act → World → Prop) (a : Act) (W : World) (ix : Nat) (o : Oper) : Prop :=
  (∀ j b, o.guard = some (j, b) → a.eval (.tmp (twoAD j)) = .bool b) ∧ o.wp Try.prog a W (fun a'' W' => ∃ v, a'' = a.put o.dst v ∧ v = twoAV Wd A n c A' n' c' ss ds p pb x y pa qa ix ∧ Below W.heap.size W W') Q

section
variable {Wd : Int} {A : Option Addr} {n c : Nat} {A' : Option Addr} {n' c' : Nat} {ss : List (Int × Int)} {ds : List (Int × Int × Int)} {p pb : Nat} {x y pa qa : Int} {Q : Exit → Act → World → Prop} {a : Act} {V W : World} {o : Oper}
theorem twoA_op0 (o2 : a.eval (.tmp 2) = .pointer (some ⟨p, 0, none⟩)) (hx : BathAt V p Wd A n c A' n' c' ss ds) (hB : Ext V W) (ho : twoAReg[0]? = some o) : twoAOk Wd A n c A' n' c' ss ds p pb x y pa qa Q a W 0 o := by
  have hop := op_at ho (·.op) (x := .load 25 (.tmp 2)) (by kernel_rfl)
  have hgd := op_at ho (·.guard) (x := none) (by kernel_rfl)
  refine ⟨fun j b h => (by rw [hgd] at h; cases h), ?_⟩
  obtain ⟨q0, q1, q2⟩ := (hx.ext hB).cells
  exact specs_value (R := fun v _ => v = twoAV Wd A n c A' n' c' ss ds p pb x y pa qa 0) (v := (.agg #[.int .i64 Wd, .slice A n c, .slice A' n' c'])) (by simp [execOp, hop, go_sem, ev o2, q0, q1, q2]) rfl (Ext.refl W)
theorem twoA_op1 (o3 : a.eval (.tmp 3) = .pointer (some ⟨pb, 0, none⟩)) (ho : twoAReg[1]? = some o) : twoAOk Wd A n c A' n' c' ss ds p pb x y pa qa Q a W 1 o := by
  have hop := op_at ho (·.op) (x := .indexAddr 54 (.tmp 3) (.const (.int .i64 0))) (by kernel_rfl)
  have hgd := op_at ho (·.guard) (x := none) (by kernel_rfl)
  refine ⟨fun j b h => (by rw [hgd] at h; cases h), ?_⟩
  exact specs_value (R := fun v _ => v = twoAV Wd A n c A' n' c' ss ds p pb x y pa qa 1) (v := .pointer (some ⟨pb, 0, none⟩)) (by simp [execOp, hop, go_sem, ev o3]) rfl (Ext.refl W)
theorem twoA_op2 (cx : ∀ W, Ext V W → W.cell? ⟨pb, 0, none⟩ = some (.int .u8 x)) (hB : Ext V W) (haft : ∀ j, (o.after.any fun e => decide (e.on = j) && Region.binds .any e) = true → a.eval (.tmp (twoAD j)) = twoAV Wd A n c A' n' c' ss ds p pb x y pa qa j) (ho : twoAReg[2]? = some o) : twoAOk Wd A n c A' n' c' ss ds p pb x y pa qa Q a W 2 o := by
  have hop := op_at ho (·.op) (x := .load 5 (.tmp 9)) (by kernel_rfl)
  have hgd := op_at ho (·.guard) (x := none) (by kernel_rfl)
  have e1 : a.eval (.tmp 9) = .pointer (some ⟨pb, 0, none⟩) := haft 1 (op_at ho (fun o => o.after.any fun e => decide (e.on = 1) && Region.binds .any e) (x := true) (by kernel_rfl))
  refine ⟨fun j b h => (by rw [hgd] at h; cases h), ?_⟩
  have cx' := cx W hB
  exact specs_value (R := fun v _ => v = twoAV Wd A n c A' n' c' ss ds p pb x y pa qa 2) (v := .int .u8 x) (by simp [execOp, hop, go_sem, ev e1, cx']) rfl (Ext.refl W)
theorem twoA_op3 (c1 : ∀ W, Ext V W → Calls Try.prog 105 #[(.agg #[.int .i64 Wd, .slice A n c, .slice A' n' c']), .int .u8 x] W fun e w' => e = .returned (.int .i64 pa) ∧ Below W.heap.size W w') (hB : Ext V W) (haft : ∀ j, (o.after.any fun e => decide (e.on = j) && Region.binds .any e) = true → a.eval (.tmp (twoAD j)) = twoAV Wd A n c A' n' c' ss ds p pb x y pa qa j) (ho : twoAReg[3]? = some o) : twoAOk Wd A n c A' n' c' ss ds p pb x y pa qa Q a W 3 o := by
  have hop := op_at ho (·.op) (x := .call { callee := .value (.func 105), args := #[.tmp 8, .tmp 10], argTypes := #[25, 5] }) (by kernel_rfl)
  have hgd := op_at ho (·.guard) (x := none) (by kernel_rfl)
  have e0 : a.eval (.tmp 8) = (.agg #[.int .i64 Wd, .slice A n c, .slice A' n' c']) := haft 0 (op_at ho (fun o => o.after.any fun e => decide (e.on = 0) && Region.binds .any e) (x := true) (by kernel_rfl))
  have e2 : a.eval (.tmp 10) = .int .u8 x := haft 2 (op_at ho (fun o => o.after.any fun e => decide (e.on = 2) && Region.binds .any e) (x := true) (by kernel_rfl))
  refine ⟨fun j b h => (by rw [hgd] at h; cases h), ?_⟩
  exact specs_call (R := fun v _ => v = twoAV Wd A n c A' n' c' ss ds p pb x y pa qa 3) (f := 105) (args := #[(.agg #[.int .i64 Wd, .slice A n c, .slice A' n' c']), .int .u8 x]) (by simp [execOp, hop, go_sem, ev e0, ev e2]) ((c1 W hB).mono fun e w' h => ⟨_, h.1, rfl, h.2⟩)
theorem twoA_op4 (o2 : a.eval (.tmp 2) = .pointer (some ⟨p, 0, none⟩)) (hx : BathAt V p Wd A n c A' n' c' ss ds) (hB : Ext V W) (ho : twoAReg[4]? = some o) : twoAOk Wd A n c A' n' c' ss ds p pb x y pa qa Q a W 4 o := by
  have hop := op_at ho (·.op) (x := .load 25 (.tmp 2)) (by kernel_rfl)
  have hgd := op_at ho (·.guard) (x := none) (by kernel_rfl)
  refine ⟨fun j b h => (by rw [hgd] at h; cases h), ?_⟩
  obtain ⟨q0, q1, q2⟩ := (hx.ext hB).cells
  exact specs_value (R := fun v _ => v = twoAV Wd A n c A' n' c' ss ds p pb x y pa qa 4) (v := (.agg #[.int .i64 Wd, .slice A n c, .slice A' n' c'])) (by simp [execOp, hop, go_sem, ev o2, q0, q1, q2]) rfl (Ext.refl W)
theorem twoA_op5 (o3 : a.eval (.tmp 3) = .pointer (some ⟨pb, 0, none⟩)) (ho : twoAReg[5]? = some o) : twoAOk Wd A n c A' n' c' ss ds p pb x y pa qa Q a W 5 o := by
  have hop := op_at ho (·.op) (x := .indexAddr 54 (.tmp 3) (.const (.int .i64 1))) (by kernel_rfl)
  have hgd := op_at ho (·.guard) (x := none) (by kernel_rfl)
  refine ⟨fun j b h => (by rw [hgd] at h; cases h), ?_⟩
  exact specs_value (R := fun v _ => v = twoAV Wd A n c A' n' c' ss ds p pb x y pa qa 5) (v := .pointer (some ⟨pb, 1, none⟩)) (by simp [execOp, hop, go_sem, ev o3]) rfl (Ext.refl W)
theorem twoA_op6 (cy : ∀ W, Ext V W → W.cell? ⟨pb, 1, none⟩ = some (.int .u8 y)) (hB : Ext V W) (haft : ∀ j, (o.after.any fun e => decide (e.on = j) && Region.binds .any e) = true → a.eval (.tmp (twoAD j)) = twoAV Wd A n c A' n' c' ss ds p pb x y pa qa j) (ho : twoAReg[6]? = some o) : twoAOk Wd A n c A' n' c' ss ds p pb x y pa qa Q a W 6 o := by
  have hop := op_at ho (·.op) (x := .load 5 (.tmp 13)) (by kernel_rfl)
  have hgd := op_at ho (·.guard) (x := none) (by kernel_rfl)
  have e5 : a.eval (.tmp 13) = .pointer (some ⟨pb, 1, none⟩) := haft 5 (op_at ho (fun o => o.after.any fun e => decide (e.on = 5) && Region.binds .any e) (x := true) (by kernel_rfl))
  refine ⟨fun j b h => (by rw [hgd] at h; cases h), ?_⟩
  have cy' := cy W hB
  exact specs_value (R := fun v _ => v = twoAV Wd A n c A' n' c' ss ds p pb x y pa qa 6) (v := .int .u8 y) (by simp [execOp, hop, go_sem, ev e5, cy']) rfl (Ext.refl W)
theorem twoA_op7 (c2 : ∀ W, Ext V W → Calls Try.prog 105 #[(.agg #[.int .i64 Wd, .slice A n c, .slice A' n' c']), .int .u8 y] W fun e w' => e = .returned (.int .i64 qa) ∧ Below W.heap.size W w') (hB : Ext V W) (haft : ∀ j, (o.after.any fun e => decide (e.on = j) && Region.binds .any e) = true → a.eval (.tmp (twoAD j)) = twoAV Wd A n c A' n' c' ss ds p pb x y pa qa j) (ho : twoAReg[7]? = some o) : twoAOk Wd A n c A' n' c' ss ds p pb x y pa qa Q a W 7 o := by
  have hop := op_at ho (·.op) (x := .call { callee := .value (.func 105), args := #[.tmp 12, .tmp 14], argTypes := #[25, 5] }) (by kernel_rfl)
  have hgd := op_at ho (·.guard) (x := none) (by kernel_rfl)
  have e4 : a.eval (.tmp 12) = (.agg #[.int .i64 Wd, .slice A n c, .slice A' n' c']) := haft 4 (op_at ho (fun o => o.after.any fun e => decide (e.on = 4) && Region.binds .any e) (x := true) (by kernel_rfl))
  have e6 : a.eval (.tmp 14) = .int .u8 y := haft 6 (op_at ho (fun o => o.after.any fun e => decide (e.on = 6) && Region.binds .any e) (x := true) (by kernel_rfl))
  refine ⟨fun j b h => (by rw [hgd] at h; cases h), ?_⟩
  exact specs_call (R := fun v _ => v = twoAV Wd A n c A' n' c' ss ds p pb x y pa qa 7) (f := 105) (args := #[(.agg #[.int .i64 Wd, .slice A n c, .slice A' n' c']), .int .u8 y]) (by simp [execOp, hop, go_sem, ev e4, ev e6]) ((c2 W hB).mono fun e w' h => ⟨_, h.1, rfl, h.2⟩)
theorem twoA_op8 (haft : ∀ j, (o.after.any fun e => decide (e.on = j) && Region.binds .any e) = true → a.eval (.tmp (twoAD j)) = twoAV Wd A n c A' n' c' ss ds p pb x y pa qa j) (ho : twoAReg[8]? = some o) : twoAOk Wd A n c A' n' c' ss ds p pb x y pa qa Q a W 8 o := by
  have hop := op_at ho (·.op) (x := .assign (.tmp 11)) (by kernel_rfl)
  have hgd := op_at ho (·.guard) (x := none) (by kernel_rfl)
  have e3 : a.eval (.tmp 11) = .int .i64 pa := haft 3 (op_at ho (fun o => o.after.any fun e => decide (e.on = 3) && Region.binds .any e) (x := true) (by kernel_rfl))
  refine ⟨fun j b h => (by rw [hgd] at h; cases h), ?_⟩
  exact specs_value (R := fun v _ => v = twoAV Wd A n c A' n' c' ss ds p pb x y pa qa 8) (v := .int .i64 pa) (by simp [execOp, hop, go_sem, ev e3]) rfl (Ext.refl W)
theorem twoA_op9 (haft : ∀ j, (o.after.any fun e => decide (e.on = j) && Region.binds .any e) = true → a.eval (.tmp (twoAD j)) = twoAV Wd A n c A' n' c' ss ds p pb x y pa qa j) (ho : twoAReg[9]? = some o) : twoAOk Wd A n c A' n' c' ss ds p pb x y pa qa Q a W 9 o := by
  have hop := op_at ho (·.op) (x := .assign (.tmp 15)) (by kernel_rfl)
  have hgd := op_at ho (·.guard) (x := none) (by kernel_rfl)
  have e7 : a.eval (.tmp 15) = .int .i64 qa := haft 7 (op_at ho (fun o => o.after.any fun e => decide (e.on = 7) && Region.binds .any e) (x := true) (by kernel_rfl))
  refine ⟨fun j b h => (by rw [hgd] at h; cases h), ?_⟩
  exact specs_value (R := fun v _ => v = twoAV Wd A n c A' n' c' ss ds p pb x y pa qa 9) (v := .int .i64 qa) (by simp [execOp, hop, go_sem, ev e7]) rfl (Ext.refl W)
end

/-- The slots. -/
def twoBD (i : Nat) : Tmp := if i = 11 then 7 else 19 + i
/-- What each operation yields. -/
def twoBV (Wd : Int) (A : Option Addr) (n c : Nat) (A' : Option Addr) (n' c' : Nat) (_ss : List (Int × Int)) (_ds : List (Int × Int × Int)) (p _pb : Nat) (pa r ra : Int) (ix : Nat) : Value :=
  match ix with
  | 0 => (.agg #[.int .i64 Wd, .slice A n c, .slice A' n' c'])
  | 1 => .int .i64 pa
  | 2 => .int .i64 (pa + 2)
  | 3 => .int .i64 (pa + 2 + 1)
  | 4 => .pointer (some ⟨p, 1, none⟩)
  | 5 => .slice A n c
  | 6 => .int .i64 (n : Int)
  | 7 => .int .i64 ((n : Int) + 2)
  | 8 => .int .i64 r
  | 9 => .int .u8 r
  | 10 => .int .i64 ra
  | 11 => .int .i64 ra
  | _ => .bool true
noncomputable def twoBReg : Array Oper := (Try.f43.body.bind (regionOf · 3)).getD #[]
def twoBOk (Wd : Int) (A : Option Addr) (n c : Nat) (A' : Option Addr) (n' c' : Nat) (ss : List (Int × Int)) (ds : List (Int × Int × Int)) (p pb : Nat) (pa r ra : Int) (Q : Exit → Act → World → Prop) (a : Act) (W : World) (ix : Nat) (o : Oper) : Prop :=
  (∀ j b, o.guard = some (j, b) → a.eval (.tmp (twoBD j)) = .bool b) ∧ o.wp Try.prog a W (fun a'' W' => ∃ v, a'' = a.put o.dst v ∧ v = twoBV Wd A n c A' n' c' ss ds p pb pa r ra ix ∧ Below W.heap.size W W') Q

section
variable {Wd : Int} {A : Option Addr} {n c : Nat} {A' : Option Addr} {n' c' : Nat} {ss : List (Int × Int)} {ds : List (Int × Int × Int)} {p pb : Nat} {pa r ra : Int} {Q : Exit → Act → World → Prop} {a : Act} {V W : World} {o : Oper}
theorem twoB_op0 (o2 : a.eval (.tmp 2) = .pointer (some ⟨p, 0, none⟩)) (hx : BathAt V p Wd A n c A' n' c' ss ds) (hB : Ext V W) (ho : twoBReg[0]? = some o) : twoBOk Wd A n c A' n' c' ss ds p pb pa r ra Q a W 0 o := by
  have hop := op_at ho (·.op) (x := .load 25 (.tmp 2)) (by kernel_rfl)
  have hgd := op_at ho (·.guard) (x := none) (by kernel_rfl)
  refine ⟨fun j b h => (by rw [hgd] at h; cases h), ?_⟩
  obtain ⟨q0, q1, q2⟩ := (hx.ext hB).cells
  exact specs_value (R := fun v _ => v = twoBV Wd A n c A' n' c' ss ds p pb pa r ra 0) (v := (.agg #[.int .i64 Wd, .slice A n c, .slice A' n' c'])) (by simp [execOp, hop, go_sem, ev o2, q0, q1, q2]) rfl (Ext.refl W)
theorem twoB_op1 (o6 : a.eval (.tmp 6) = .int .i64 pa) (ho : twoBReg[1]? = some o) : twoBOk Wd A n c A' n' c' ss ds p pb pa r ra Q a W 1 o := by
  have hop := op_at ho (·.op) (x := .move (.tmp 6)) (by kernel_rfl)
  have hgd := op_at ho (·.guard) (x := none) (by kernel_rfl)
  refine ⟨fun j b h => (by rw [hgd] at h; cases h), ?_⟩
  exact specs_value (R := fun v _ => v = twoBV Wd A n c A' n' c' ss ds p pb pa r ra 1) (v := .int .i64 pa) (by simp [execOp, hop, go_sem, ev o6]) rfl (Ext.refl W)
theorem twoB_op2 (w1 : IntKind.i64.wrap (pa + 2) = pa + 2) (haft : ∀ j, (o.after.any fun e => decide (e.on = j) && Region.binds .any e) = true → a.eval (.tmp (twoBD j)) = twoBV Wd A n c A' n' c' ss ds p pb pa r ra j) (ho : twoBReg[2]? = some o) : twoBOk Wd A n c A' n' c' ss ds p pb pa r ra Q a W 2 o := by
  have hop := op_at ho (·.op) (x := .binOp .add 3 (.tmp 20) (.const (.int .i64 2)) 3) (by kernel_rfl)
  have hgd := op_at ho (·.guard) (x := none) (by kernel_rfl)
  have e1 : a.eval (.tmp 20) = .int .i64 pa := haft 1 (op_at ho (fun o => o.after.any fun e => decide (e.on = 1) && Region.binds .any e) (x := true) (by kernel_rfl))
  refine ⟨fun j b h => (by rw [hgd] at h; cases h), ?_⟩
  exact specs_value (R := fun v _ => v = twoBV Wd A n c A' n' c' ss ds p pb pa r ra 2) (v := .int .i64 (pa + 2)) (by simp [execOp, hop, go_sem, ev e1, w1]) rfl (Ext.refl W)
theorem twoB_op3 (w2 : IntKind.i64.wrap (pa + 2 + 1) = pa + 2 + 1) (haft : ∀ j, (o.after.any fun e => decide (e.on = j) && Region.binds .any e) = true → a.eval (.tmp (twoBD j)) = twoBV Wd A n c A' n' c' ss ds p pb pa r ra j) (ho : twoBReg[3]? = some o) : twoBOk Wd A n c A' n' c' ss ds p pb pa r ra Q a W 3 o := by
  have hop := op_at ho (·.op) (x := .binOp .add 3 (.tmp 21) (.const (.int .i64 1)) 3) (by kernel_rfl)
  have hgd := op_at ho (·.guard) (x := none) (by kernel_rfl)
  have e2 : a.eval (.tmp 21) = .int .i64 (pa + 2) := haft 2 (op_at ho (fun o => o.after.any fun e => decide (e.on = 2) && Region.binds .any e) (x := true) (by kernel_rfl))
  refine ⟨fun j b h => (by rw [hgd] at h; cases h), ?_⟩
  exact specs_value (R := fun v _ => v = twoBV Wd A n c A' n' c' ss ds p pb pa r ra 3) (v := .int .i64 (pa + 2 + 1)) (by simp [execOp, hop, go_sem, ev e2, w2]) rfl (Ext.refl W)
theorem twoB_op4 (o2 : a.eval (.tmp 2) = .pointer (some ⟨p, 0, none⟩)) (ho : twoBReg[4]? = some o) : twoBOk Wd A n c A' n' c' ss ds p pb pa r ra Q a W 4 o := by
  have hop := op_at ho (·.op) (x := .fieldAddr 25 (.tmp 2) 1) (by kernel_rfl)
  have hgd := op_at ho (·.guard) (x := none) (by kernel_rfl)
  refine ⟨fun j b h => (by rw [hgd] at h; cases h), ?_⟩
  exact specs_value (R := fun v _ => v = twoBV Wd A n c A' n' c' ss ds p pb pa r ra 4) (v := .pointer (some ⟨p, 1, none⟩)) (by simp [execOp, hop, go_sem, ev o2]) rfl (Ext.refl W)
theorem twoB_op5 (hx : BathAt V p Wd A n c A' n' c' ss ds) (hB : Ext V W) (haft : ∀ j, (o.after.any fun e => decide (e.on = j) && Region.binds .any e) = true → a.eval (.tmp (twoBD j)) = twoBV Wd A n c A' n' c' ss ds p pb pa r ra j) (ho : twoBReg[5]? = some o) : twoBOk Wd A n c A' n' c' ss ds p pb pa r ra Q a W 5 o := by
  have hop := op_at ho (·.op) (x := .load 22 (.tmp 23)) (by kernel_rfl)
  have hgd := op_at ho (·.guard) (x := none) (by kernel_rfl)
  have e4 : a.eval (.tmp 23) = .pointer (some ⟨p, 1, none⟩) := haft 4 (op_at ho (fun o => o.after.any fun e => decide (e.on = 4) && Region.binds .any e) (x := true) (by kernel_rfl))
  refine ⟨fun j b h => (by rw [hgd] at h; cases h), ?_⟩
  obtain ⟨q0, q1, q2⟩ := (hx.ext hB).cells
  exact specs_value (R := fun v _ => v = twoBV Wd A n c A' n' c' ss ds p pb pa r ra 5) (v := .slice A n c) (by simp [execOp, hop, go_sem, ev e4, q1]) rfl (Ext.refl W)
theorem twoB_op6 (haft : ∀ j, (o.after.any fun e => decide (e.on = j) && Region.binds .any e) = true → a.eval (.tmp (twoBD j)) = twoBV Wd A n c A' n' c' ss ds p pb pa r ra j) (ho : twoBReg[6]? = some o) : twoBOk Wd A n c A' n' c' ss ds p pb pa r ra Q a W 6 o := by
  have hop := op_at ho (·.op) (x := .call { callee := .builtin .len, args := #[.tmp 24], argTypes := #[22] }) (by kernel_rfl)
  have hgd := op_at ho (·.guard) (x := none) (by kernel_rfl)
  have e5 : a.eval (.tmp 24) = .slice A n c := haft 5 (op_at ho (fun o => o.after.any fun e => decide (e.on = 5) && Region.binds .any e) (x := true) (by kernel_rfl))
  refine ⟨fun j b h => (by rw [hgd] at h; cases h), ?_⟩
  exact specs_value (R := fun v _ => v = twoBV Wd A n c A' n' c' ss ds p pb pa r ra 6) (v := .int .i64 (n : Int)) (by simp [execOp, hop, go_sem, ev e5]) rfl (Ext.refl W)
theorem twoB_op7 (w3 : IntKind.i64.wrap ((n : Int) + 2) = (n : Int) + 2) (haft : ∀ j, (o.after.any fun e => decide (e.on = j) && Region.binds .any e) = true → a.eval (.tmp (twoBD j)) = twoBV Wd A n c A' n' c' ss ds p pb pa r ra j) (ho : twoBReg[7]? = some o) : twoBOk Wd A n c A' n' c' ss ds p pb pa r ra Q a W 7 o := by
  have hop := op_at ho (·.op) (x := .binOp .add 3 (.tmp 25) (.const (.int .i64 2)) 3) (by kernel_rfl)
  have hgd := op_at ho (·.guard) (x := none) (by kernel_rfl)
  have e6 : a.eval (.tmp 25) = .int .i64 (n : Int) := haft 6 (op_at ho (fun o => o.after.any fun e => decide (e.on = 6) && Region.binds .any e) (x := true) (by kernel_rfl))
  refine ⟨fun j b h => (by rw [hgd] at h; cases h), ?_⟩
  exact specs_value (R := fun v _ => v = twoBV Wd A n c A' n' c' ss ds p pb pa r ra 7) (v := .int .i64 ((n : Int) + 2)) (by simp [execOp, hop, go_sem, ev e6, w3]) rfl (Ext.refl W)
theorem twoB_op8 (w4 : ¬ (n : Int) + 2 = 0) (w5 : (pa + 2 + 1).tmod ((n : Int) + 2) = r) (_w6 : IntKind.i64.wrap r = r) (haft : ∀ j, (o.after.any fun e => decide (e.on = j) && Region.binds .any e) = true → a.eval (.tmp (twoBD j)) = twoBV Wd A n c A' n' c' ss ds p pb pa r ra j) (ho : twoBReg[8]? = some o) : twoBOk Wd A n c A' n' c' ss ds p pb pa r ra Q a W 8 o := by
  have hop := op_at ho (·.op) (x := .binOp .rem 3 (.tmp 22) (.tmp 26) 3) (by kernel_rfl)
  have hgd := op_at ho (·.guard) (x := none) (by kernel_rfl)
  have e3 : a.eval (.tmp 22) = .int .i64 (pa + 2 + 1) := haft 3 (op_at ho (fun o => o.after.any fun e => decide (e.on = 3) && Region.binds .any e) (x := true) (by kernel_rfl))
  have e7 : a.eval (.tmp 26) = .int .i64 ((n : Int) + 2) := haft 7 (op_at ho (fun o => o.after.any fun e => decide (e.on = 7) && Region.binds .any e) (x := true) (by kernel_rfl))
  refine ⟨fun j b h => (by rw [hgd] at h; cases h), ?_⟩
  exact specs_value (R := fun v _ => v = twoBV Wd A n c A' n' c' ss ds p pb pa r ra 8) (v := .int .i64 r) (by simp [execOp, hop, go_sem, ev e3, ev e7, w4, w5]) rfl (Ext.refl W)
theorem twoB_op9 (w7 : IntKind.u8.wrap r = r) (haft : ∀ j, (o.after.any fun e => decide (e.on = j) && Region.binds .any e) = true → a.eval (.tmp (twoBD j)) = twoBV Wd A n c A' n' c' ss ds p pb pa r ra j) (ho : twoBReg[9]? = some o) : twoBOk Wd A n c A' n' c' ss ds p pb pa r ra Q a W 9 o := by
  have hop := op_at ho (·.op) (x := .convert 3 5 (.tmp 27)) (by kernel_rfl)
  have hgd := op_at ho (·.guard) (x := none) (by kernel_rfl)
  have e8 : a.eval (.tmp 27) = .int .i64 r := haft 8 (op_at ho (fun o => o.after.any fun e => decide (e.on = 8) && Region.binds .any e) (x := true) (by kernel_rfl))
  refine ⟨fun j b h => (by rw [hgd] at h; cases h), ?_⟩
  exact specs_value (R := fun v _ => v = twoBV Wd A n c A' n' c' ss ds p pb pa r ra 9) (v := .int .u8 r) (by simp [execOp, hop, go_sem, ev e8, w7]) rfl (Ext.refl W)
theorem twoB_op10 (c3 : ∀ W, Ext V W → Calls Try.prog 105 #[(.agg #[.int .i64 Wd, .slice A n c, .slice A' n' c']), .int .u8 r] W fun e w' => e = .returned (.int .i64 ra) ∧ Below W.heap.size W w') (hB : Ext V W) (haft : ∀ j, (o.after.any fun e => decide (e.on = j) && Region.binds .any e) = true → a.eval (.tmp (twoBD j)) = twoBV Wd A n c A' n' c' ss ds p pb pa r ra j) (ho : twoBReg[10]? = some o) : twoBOk Wd A n c A' n' c' ss ds p pb pa r ra Q a W 10 o := by
  have hop := op_at ho (·.op) (x := .call { callee := .value (.func 105), args := #[.tmp 19, .tmp 28], argTypes := #[25, 5] }) (by kernel_rfl)
  have hgd := op_at ho (·.guard) (x := none) (by kernel_rfl)
  have e0 : a.eval (.tmp 19) = (.agg #[.int .i64 Wd, .slice A n c, .slice A' n' c']) := haft 0 (op_at ho (fun o => o.after.any fun e => decide (e.on = 0) && Region.binds .any e) (x := true) (by kernel_rfl))
  have e9 : a.eval (.tmp 28) = .int .u8 r := haft 9 (op_at ho (fun o => o.after.any fun e => decide (e.on = 9) && Region.binds .any e) (x := true) (by kernel_rfl))
  refine ⟨fun j b h => (by rw [hgd] at h; cases h), ?_⟩
  exact specs_call (R := fun v _ => v = twoBV Wd A n c A' n' c' ss ds p pb pa r ra 10) (f := 105) (args := #[(.agg #[.int .i64 Wd, .slice A n c, .slice A' n' c']), .int .u8 r]) (by simp [execOp, hop, go_sem, ev e0, ev e9]) ((c3 W hB).mono fun e w' h => ⟨_, h.1, rfl, h.2⟩)
theorem twoB_op11 (haft : ∀ j, (o.after.any fun e => decide (e.on = j) && Region.binds .any e) = true → a.eval (.tmp (twoBD j)) = twoBV Wd A n c A' n' c' ss ds p pb pa r ra j) (ho : twoBReg[11]? = some o) : twoBOk Wd A n c A' n' c' ss ds p pb pa r ra Q a W 11 o := by
  have hop := op_at ho (·.op) (x := .assign (.tmp 29)) (by kernel_rfl)
  have hgd := op_at ho (·.guard) (x := none) (by kernel_rfl)
  have e10 : a.eval (.tmp 29) = .int .i64 ra := haft 10 (op_at ho (fun o => o.after.any fun e => decide (e.on = 10) && Region.binds .any e) (x := true) (by kernel_rfl))
  refine ⟨fun j b h => (by rw [hgd] at h; cases h), ?_⟩
  exact specs_value (R := fun v _ => v = twoBV Wd A n c A' n' c' ss ds p pb pa r ra 11) (v := .int .i64 ra) (by simp [execOp, hop, go_sem, ev e10]) rfl (Ext.refl W)
end
end Go.Proofs.Ytckndnaohggmhaa

/- DropTold's helper two: two different places by numbers. -/
namespace Go.Proofs.Ytckndnaohggmhaa
open Go.RowKit Go.Shelf

/-- The second of two places. -/
def otherOf (n : Nat) (x y : Int) : Int := if placeOf n x = placeOf n y then placeOf n ((placeOf n x + 2 + 1) % ((n : Int) + 2)) else placeOf n y
theorem otherOf_ne (n : Nat) (x y : Int) : placeOf n x ≠ otherOf n x y := by
  unfold otherOf
  split
  · have h1 := placeOf_bd n x
    unfold placeOf at h1 ⊢
    obtain ⟨q, hq⟩ : ∃ q, x % ((n : Int) + 2) = q := ⟨_, rfl⟩
    rw [hq] at h1 ⊢
    rw [show q - 2 + 2 + 1 = q + 1 from by omega, Int.emod_emod_of_dvd _ (Int.dvd_refl _)]
    by_cases h : q + 1 = (n : Int) + 2
    · rw [h, Int.emod_self]; omega
    · rw [Int.emod_eq_of_lt (by omega) (by omega)]; omega
  · assumption
theorem otherOf_bd (n : Nat) (x y : Int) : -2 ≤ otherOf n x y ∧ otherOf n x y < n := by
  unfold otherOf
  split <;> exact placeOf_bd _ _

section
variable {w : World} {Wd : Int} {A : Option Addr} {n c : Nat} {A' : Option Addr} {n' c' : Nat} {ss : List (Int × Int)} {ds : List (Int × Int × Int)}
set_option maxRecDepth 100000 in
set_option maxHeartbeats 2000000 in
theorem two_any (x y : Int) (hx : 0 ≤ x ∧ x ≤ 255) (hy : 0 ≤ y ∧ y ≤ 255) (hn : n ≤ 10) (hb : IsBath w w.heap.size A n c A' n' c' ss ds) :
    Calls Try.prog 43 #[.agg #[.int .i64 Wd, .slice A n c, .slice A' n' c'], .agg #[.int .u8 x, .int .u8 y]] w fun e w' => e = .returned (.tuple #[.int .i64 (placeOf n x), .int .i64 (otherOf n x y)]) ∧ Ext w w' := by
  have hX0 : BathAt (w.alloc (.cells #[.int .i64 Wd, .slice A n c, .slice A' n' c'] 25)) w.heap.size Wd A n c A' n' c' ss ds := BathAt.new hb
  have hE0 : Ext w (w.alloc (.cells #[.int .i64 Wd, .slice A n c, .slice A' n' c'] 25)) := ext_alloc w _
  have hca := placeOf_bd n x
  have hcb := placeOf_bd n y
  have c1 : ∀ W : World, Calls Try.prog 105 #[.agg #[.int .i64 Wd, .slice A n c, .slice A' n' c'], .int .u8 x] W fun e w' => e = .returned (.int .i64 (placeOf n x)) ∧ Ext W w' := fun W => place_any x hx hn W
  have c2 : ∀ W : World, Calls Try.prog 105 #[.agg #[.int .i64 Wd, .slice A n c, .slice A' n' c'], .int .u8 y] W fun e w' => e = .returned (.int .i64 (placeOf n y)) ∧ Ext W w' := fun W => place_any y hy hn W
  have hans : otherOf n x y = if placeOf n x = placeOf n y then placeOf n ((placeOf n x + 2 + 1) % ((n : Int) + 2)) else placeOf n y := rfl
  obtain ⟨pa, ha⟩ : ∃ pa, placeOf n x = pa := ⟨_, rfl⟩
  obtain ⟨qa, hb'⟩ : ∃ qa, placeOf n y = qa := ⟨_, rfl⟩
  obtain ⟨o, ho⟩ : ∃ o, otherOf n x y = o := ⟨_, rfl⟩
  rw [ha, hb', ho] at hans
  rw [ha] at c1 hca
  rw [hb'] at c2 hcb
  rw [ha, ho]
  have HA := Lib.hid hans
  clear ha hb' ho hans hb hx hy
  go_enter Try.func43, Try.ntmps43
  go_upto_region 1 with fail
  obtain ⟨w0, hw0⟩ : ∃ w0, (w.alloc (.cells #[.int .i64 Wd, .slice A n c, .slice A' n' c'] 25)).alloc (.cells #[.int .u8 x, .int .u8 y] 54) = w0 := ⟨_, rfl⟩
  have e1 := ext_alloc (w.alloc (.cells #[.int .i64 Wd, .slice A n c, .slice A' n' c'] 25)) (.cells #[.int .u8 x, .int .u8 y] 54)
  have hrow : w0.heap[w.heap.size + 1]? = some (.cells #[.int .u8 x, .int .u8 y] 54 (0, 0)) := by
    rw [← hw0]
    exact row_last _ _ _ (by simp)
  rw [hw0] at e1 ⊢
  have HX := Lib.hid (hX0.ext e1)
  have HE := Lib.hid (hE0.trans e1)
  clear hw0 e1 hX0 hE0
  obtain ⟨pb, hpb⟩ : ∃ pb, w.heap.size + 1 = pb := ⟨_, rfl⟩
  rw [hpb] at hrow ⊢
  clear hpb
  obtain ⟨p, hp⟩ : ∃ p, w.heap.size = p := ⟨_, rfl⟩
  rw [hp] at HX ⊢
  clear hp
  have hx := HX.out
  have cx : ∀ W, Ext w0 W → W.cell? ⟨pb, 0, none⟩ = some (.int .u8 x) := fun W h => cell_of_row _ _ _ _ _ _ (row_ext hrow h)
  have cy : ∀ W, Ext w0 W → W.cell? ⟨pb, 1, none⟩ = some (.int .u8 y) := fun W h => cell_of_row _ _ _ _ _ _ (row_ext hrow h)
  replace c1 := fun W (_ : Ext w0 W) => c1 W
  replace c2 := fun W (_ : Ext w0 W) => c2 W
  refine wp_region_specs (ops := twoAReg) (fun i v _ => v = twoAV Wd A n c A' n' c' ss ds p pb x y pa qa i) (Ext w0) (by kernel_rfl) (by kernel_rfl) ⟨rfl, rfl, rfl, Nat.le_refl _, fun _ _ => rfl⟩ (fun _ _ h e => h.trans e) (fun _ _ _ _ h _ => h) twoAD (by kernel_rfl) ?_ ?_
  · intro i o ho a W hB hsz hold haft
    have hi : i < 10 := (Array.getElem?_eq_some_iff.1 ho).1
    match i, hi with
    | 0, _ => exact twoA_op0 (hold 2 (by kernel_rfl)) hx hB ho
    | 1, _ => exact twoA_op1 (hold 3 (by kernel_rfl)) ho
    | 2, _ => exact twoA_op2 cx hB haft ho
    | 3, _ => exact twoA_op3 c1 hB haft ho
    | 4, _ => exact twoA_op4 (hold 2 (by kernel_rfl)) hx hB ho
    | 5, _ => exact twoA_op5 (hold 3 (by kernel_rfl)) ho
    | 6, _ => exact twoA_op6 cy hB haft ho
    | 7, _ => exact twoA_op7 c2 hB haft ho
    | 8, _ => exact twoA_op8 haft ho
    | 9, _ => exact twoA_op9 haft ho
    | i + 10, h => exact absurd h (by omega)
  · intro a W1 hB hsz hdf hold hS
    have hsize : 10 = twoAReg.size := by kernel_rfl
    have hall : ∀ z, z ∈ ([(8, .agg #[.int .i64 Wd, .slice A n c, .slice A' n' c']), (9, .pointer (some ⟨pb, 0, none⟩)), (10, .int .u8 x), (11, .int .i64 pa), (12, .agg #[.int .i64 Wd, .slice A n c, .slice A' n' c']), (13, .pointer (some ⟨pb, 1, none⟩)), (14, .int .u8 y), (15, .int .i64 qa), (6, .int .i64 pa), (7, .int .i64 qa)] : List (Tmp × Value)) → z.1 < 32 ∧ a.eval (.tmp z.1) = z.2 := by
      intro z hz
      simp only [List.mem_cons, List.not_mem_nil, or_false] at hz
      rcases hz with rfl | rfl | rfl | rfl | rfl | rfl | rfl | rfl | rfl | rfl
      · exact ⟨(show (8 : Nat) < 32 by omega), hS 0 (by rw [← hsize]; omega)⟩
      · exact ⟨(show (9 : Nat) < 32 by omega), hS 1 (by rw [← hsize]; omega)⟩
      · exact ⟨(show (10 : Nat) < 32 by omega), hS 2 (by rw [← hsize]; omega)⟩
      · exact ⟨(show (11 : Nat) < 32 by omega), hS 3 (by rw [← hsize]; omega)⟩
      · exact ⟨(show (12 : Nat) < 32 by omega), hS 4 (by rw [← hsize]; omega)⟩
      · exact ⟨(show (13 : Nat) < 32 by omega), hS 5 (by rw [← hsize]; omega)⟩
      · exact ⟨(show (14 : Nat) < 32 by omega), hS 6 (by rw [← hsize]; omega)⟩
      · exact ⟨(show (15 : Nat) < 32 by omega), hS 7 (by rw [← hsize]; omega)⟩
      · exact ⟨(show (6 : Nat) < 32 by omega), hS 8 (by rw [← hsize]; omega)⟩
      · exact ⟨(show (7 : Nat) < 32 by omega), hS 9 (by rw [← hsize]; omega)⟩
    have ha := act_puts hsz hdf hall (fun t ht => hold t (all_ne_of (l := [(8, .agg #[.int .i64 Wd, .slice A n c, .slice A' n' c']), (9, .pointer (some ⟨pb, 0, none⟩)), (10, .int .u8 x), (11, .int .i64 pa), (12, .agg #[.int .i64 Wd, .slice A n c, .slice A' n' c']), (13, .pointer (some ⟨pb, 1, none⟩)), (14, .int .u8 y), (15, .int .i64 qa), (6, .int .i64 pa), (7, .int .i64 qa)]) (by kernel_rfl) ht))
    clear hall hS hold hsz hdf hsize
    rw [ha]
    clear ha
    simp only [Exit.then, puts, List.foldl_cons, List.foldl_nil, Act.put, List.setIfInBounds_toArray, List.set_cons_succ, List.set_cons_zero]
    go_at_K
    by_cases hab : pa = qa
    · subst hab
      have hans : o = placeOf n ((pa + 2 + 1) % ((n : Int) + 2)) := by rw [HA.out, if_pos rfl]
      have hr := Int.emod_nonneg (pa + 2 + 1) (show ((n : Int) + 2) ≠ 0 by omega)
      have hr2 := Int.emod_lt_of_pos (pa + 2 + 1) (show 0 < (n : Int) + 2 by omega)
      obtain ⟨r, hrr⟩ : ∃ r, (pa + 2 + 1) % ((n : Int) + 2) = r := ⟨_, rfl⟩
      rw [hrr] at hr hr2 hans
      have w5 : (pa + 2 + 1).tmod ((n : Int) + 2) = r := by rw [Int.tmod_eq_emod_of_nonneg (by omega), hrr]
      have c3 : ∀ W, Ext W1 W → Calls Try.prog 105 #[.agg #[.int .i64 Wd, .slice A n c, .slice A' n' c'], .int .u8 r] W fun e w' => e = .returned (.int .i64 o) ∧ Below W.heap.size W w' := fun W _ => by rw [hans]; exact place_any r (by omega) hn W
      have w1 : IntKind.i64.wrap (pa + 2) = pa + 2 := IntWalk.i64_in _ (by omega)
      have w2 : IntKind.i64.wrap (pa + 2 + 1) = pa + 2 + 1 := IntWalk.i64_in _ (by omega)
      have w3 : IntKind.i64.wrap ((n : Int) + 2) = (n : Int) + 2 := IntWalk.i64_in _ (by omega)
      have w4 : ¬ (n : Int) + 2 = 0 := by omega
      have w6 : IntKind.i64.wrap r = r := IntWalk.i64_in _ (by omega)
      have w7 : IntKind.u8.wrap r = r := IntWalk.u8_in _ (by omega)
      clear HA hans hrr
      go_upto_region 3 with fail
      replace hx := hx.ext hB
      have HE2 := Lib.hid (HE.out.trans hB)
      clear hB HE HX cx cy c1 c2 hrow
      refine wp_region_specs (ops := twoBReg) (fun i v _ => v = twoBV Wd A n c A' n' c' ss ds p pb pa r o i) (Ext W1) (by kernel_rfl) (by kernel_rfl) ⟨rfl, rfl, rfl, Nat.le_refl _, fun _ _ => rfl⟩ (fun _ _ h e => h.trans e) (fun _ _ _ _ h _ => h) twoBD (by kernel_rfl) ?_ ?_
      · intro i o ho a W hB hsz hold haft
        have hi : i < 12 := (Array.getElem?_eq_some_iff.1 ho).1
        match i, hi with
        | 0, _ => exact twoB_op0 (hold 2 (by kernel_rfl)) hx hB ho
        | 1, _ => exact twoB_op1 (hold 6 (by kernel_rfl)) ho
        | 2, _ => exact twoB_op2 w1 haft ho
        | 3, _ => exact twoB_op3 w2 haft ho
        | 4, _ => exact twoB_op4 (hold 2 (by kernel_rfl)) ho
        | 5, _ => exact twoB_op5 hx hB haft ho
        | 6, _ => exact twoB_op6 haft ho
        | 7, _ => exact twoB_op7 w3 haft ho
        | 8, _ => exact twoB_op8 w4 w5 w6 haft ho
        | 9, _ => exact twoB_op9 w7 haft ho
        | 10, _ => exact twoB_op10 c3 hB haft ho
        | 11, _ => exact twoB_op11 haft ho
        | i + 12, h => exact absurd h (by omega)
      · intro a W2 hB hsz hdf hold hS
        have hsize : 12 = twoBReg.size := by kernel_rfl
        have hall : ∀ z, z ∈ ([(19, .agg #[.int .i64 Wd, .slice A n c, .slice A' n' c']), (20, .int .i64 pa), (21, .int .i64 (pa + 2)), (22, .int .i64 (pa + 2 + 1)), (23, .pointer (some ⟨p, 1, none⟩)), (24, .slice A n c), (25, .int .i64 (n : Int)), (26, .int .i64 ((n : Int) + 2)), (27, .int .i64 r), (28, .int .u8 r), (29, .int .i64 o), (7, .int .i64 o)] : List (Tmp × Value)) → z.1 < 32 ∧ a.eval (.tmp z.1) = z.2 := by
          intro z hz
          simp only [List.mem_cons, List.not_mem_nil, or_false] at hz
          rcases hz with rfl | rfl | rfl | rfl | rfl | rfl | rfl | rfl | rfl | rfl | rfl | rfl
          · exact ⟨(show (19 : Nat) < 32 by omega), hS 0 (by rw [← hsize]; omega)⟩
          · exact ⟨(show (20 : Nat) < 32 by omega), hS 1 (by rw [← hsize]; omega)⟩
          · exact ⟨(show (21 : Nat) < 32 by omega), hS 2 (by rw [← hsize]; omega)⟩
          · exact ⟨(show (22 : Nat) < 32 by omega), hS 3 (by rw [← hsize]; omega)⟩
          · exact ⟨(show (23 : Nat) < 32 by omega), hS 4 (by rw [← hsize]; omega)⟩
          · exact ⟨(show (24 : Nat) < 32 by omega), hS 5 (by rw [← hsize]; omega)⟩
          · exact ⟨(show (25 : Nat) < 32 by omega), hS 6 (by rw [← hsize]; omega)⟩
          · exact ⟨(show (26 : Nat) < 32 by omega), hS 7 (by rw [← hsize]; omega)⟩
          · exact ⟨(show (27 : Nat) < 32 by omega), hS 8 (by rw [← hsize]; omega)⟩
          · exact ⟨(show (28 : Nat) < 32 by omega), hS 9 (by rw [← hsize]; omega)⟩
          · exact ⟨(show (29 : Nat) < 32 by omega), hS 10 (by rw [← hsize]; omega)⟩
          · exact ⟨(show (7 : Nat) < 32 by omega), hS 11 (by rw [← hsize]; omega)⟩
        have ha := act_puts hsz hdf hall (fun t ht => hold t (all_ne_of (l := [(19, .agg #[.int .i64 Wd, .slice A n c, .slice A' n' c']), (20, .int .i64 pa), (21, .int .i64 (pa + 2)), (22, .int .i64 (pa + 2 + 1)), (23, .pointer (some ⟨p, 1, none⟩)), (24, .slice A n c), (25, .int .i64 (n : Int)), (26, .int .i64 ((n : Int) + 2)), (27, .int .i64 r), (28, .int .u8 r), (29, .int .i64 o), (7, .int .i64 o)]) (by kernel_rfl) ht))
        clear hall hS hold hsz hdf hsize
        rw [ha]
        clear ha
        simp only [Exit.then, puts, List.foldl_cons, List.foldl_nil, Act.put, List.setIfInBounds_toArray, List.set_cons_succ, List.set_cons_zero]
        go_at_K
        have HE3 := Lib.hid (HE2.out.trans hB)
        clear hB HE2 hx c3 w1 w2 w3 w4 w5 w6 w7
        go_wp2
        go_ret2
        exact ⟨rfl, HE3.out⟩
    · have hans : o = qa := by rw [HA.out, if_neg hab]
      have hb2 : (pa == qa) = false := by simpa using hab
      subst hans
      have HE2 := Lib.hid (HE.out.trans hB)
      clear hB HE HX HA hx cx cy c1 c2 hrow
      go_wp2
      go_ret2
      exact ⟨rfl, HE2.out⟩
end
end Go.Proofs.Ytckndnaohggmhaa
