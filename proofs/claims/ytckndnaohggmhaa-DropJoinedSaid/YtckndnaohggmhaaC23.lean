/- Texts of the package drop, joined: RefBase, RefSize, RefBath, RefSizeOps, RefSizeAns. -/
import Derived.Test.YtckndnaohggmhaaC15
import Derived.Test.YtckndnaohggmhaaC20
import Derived.Deep.Cut
/- The reference's small functions: IsSpot, Ends, SizeOf. -/
namespace Go.Proofs.Ytckndnaohggmhaa
open Go.RowKit Go.Shelf

/-- A variable at p that holds a bath. -/
structure BathAt (W : World) (p : Nat) (Wd : Int) (A : Option Addr) (n c : Nat) (A' : Option Addr) (n' c' : Nat) (ss : List (Int × Int)) (ds : List (Int × Int × Int)) : Prop where
  row : W.heap[p]? = some (.cells #[.int .i64 Wd, .slice A n c, .slice A' n' c'] 25 (0, 0))
  bath : IsBath W W.heap.size A n c A' n' c' ss ds

section
variable {w W W' : World} {p : Nat} {Wd : Int} {A : Option Addr} {n c : Nat} {A' : Option Addr} {n' c' : Nat} {ss : List (Int × Int)} {ds : List (Int × Int × Int)}
theorem IsBath.ext (h : IsBath W W.heap.size A n c A' n' c' ss ds) (e : Ext W W') : IsBath W' W'.heap.size A n c A' n' c' ss ds := (h.kept e (Nat.le_refl _)).wider e.size
theorem BathAt.ext (h : BathAt W p Wd A n c A' n' c' ss ds) (e : Ext W W') : BathAt W' p Wd A n c A' n' c' ss ds := ⟨row_ext h.row e, h.bath.ext e⟩
theorem ext_alloc (w : World) (o : Obj) : Ext w (w.alloc o) := (Below.refl _ w).alloc (Nat.le_refl _) _
theorem ext_drewN {w W : World} (h : Ext w W) (k : Nat) : Ext w (W.drewN k) := bdrewN h k
theorem BathAt.new (h : IsBath w w.heap.size A n c A' n' c' ss ds) : BathAt (w.alloc (.cells #[.int .i64 Wd, .slice A n c, .slice A' n' c'] 25)) w.heap.size Wd A n c A' n' c' ss ds :=
  ⟨row_last w _ _ rfl, h.ext (ext_alloc w _)⟩
theorem BathAt.cells (h : BathAt W p Wd A n c A' n' c' ss ds) : W.cell? ⟨p, 0, none⟩ = some (.int .i64 Wd) ∧ W.cell? ⟨p, 1, none⟩ = some (.slice A n c) ∧ W.cell? ⟨p, 2, none⟩ = some (.slice A' n' c') :=
  ⟨cell_of_row _ _ _ _ _ _ h.row, cell_of_row _ _ _ _ _ _ h.row, cell_of_row _ _ _ _ _ _ h.row⟩
theorem BathAt.spot (h : BathAt W p Wd A n c A' n' c' ss ds) {k : Nat} (hk : k < n) : ∃ b off, A = some ⟨b, off, none⟩ ∧ W.cell? ⟨b, off + k * 2, none⟩ = some (.int .i64 (ss.getD k (0, 0)).1) ∧ W.cell? ⟨b, off + k * 2 + 1, none⟩ = some (.int .i64 (ss.getD k (0, 0)).2) := by
  have hkl : k < ss.length := by rw [← h.bath.nss]; exact hk
  rcases h.bath.hss with e | ⟨b, off, rfl, _, hc⟩
  · simp [e] at hkl
  · have e := List.getElem?_eq_getElem hkl
    have e2 : ss.getD k (0, 0) = ss[k] := by simp [e]
    rw [e2]
    exact ⟨b, off, rfl, hc k _ e 0 _ rfl, hc k _ e 1 _ rfl⟩
theorem BathAt.drop (h : BathAt W p Wd A n c A' n' c' ss ds) {k : Nat} (hk : k < n') : ∃ b off, A' = some ⟨b, off, none⟩ ∧ W.cell? ⟨b, off + k * 3, none⟩ = some (.int .i64 (ds.getD k (0, 0, 0)).1) ∧ W.cell? ⟨b, off + k * 3 + 1, none⟩ = some (.int .i64 (ds.getD k (0, 0, 0)).2.1) ∧ W.cell? ⟨b, off + k * 3 + 2, none⟩ = some (.int .i64 (ds.getD k (0, 0, 0)).2.2) := by
  have hkl : k < ds.length := by rw [← h.bath.nds]; exact hk
  rcases h.bath.hds with e | ⟨b, off, rfl, _, hc⟩
  · simp [e] at hkl
  · have e := List.getElem?_eq_getElem hkl
    have e2 : ds.getD k (0, 0, 0) = ds[k] := by simp [e]
    rw [e2]
    exact ⟨b, off, rfl, hc k _ e 0 _ rfl, hc k _ e 1 _ rfl, hc k _ e 2 _ rfl⟩

set_option maxHeartbeats 400000 in
theorem isSpot_ref (x : Int) (w : World) : Calls Try.prog 60 #[.agg #[.int .i64 Wd, .slice A n c, .slice A' n' c'], .int .i64 x] w fun e w' => e = .returned (.bool (decide (0 ≤ x) && decide (x < (n : Int)))) ∧ Ext w w' := by
  by_cases h1 : 0 ≤ x
  · by_cases h2 : x < (n : Int)
    · go_enter Try.func60, Try.ntmps60
      go_wp2
      go_ret
      exact ⟨ret_bool (by simp [h1, h2]), ext_alloc w _⟩
    · go_enter Try.func60, Try.ntmps60
      go_wp2
      go_ret
      exact ⟨ret_bool (by simp [h2]), ext_alloc w _⟩
  · go_enter Try.func60, Try.ntmps60
    go_wp2
    go_ret
    exact ⟨ret_bool (by simp; omega), ext_alloc w _⟩

/-- The least or the greatest truth. -/
def endOf (high : Bool) (d : Int × Int × Int) : Int := if high then d.2.2 else d.2.1
/-- A slice of int64 numbers that the call made. -/
def Made64 (base : Nat) (xs : List Int) (w : World) (v : Value) : Prop := w.ownsRow base 2 1 v xs.length (xs.map (Value.int .i64)) ∧ (xs = [] → v = .slice none 0 0)
theorem info2 : (Try.prog.info? 2).map (fun i => (i.zero, i.size, i.bytes)) = some (some (.int .i64 0), 1, 8) := by kernel_rfl
theorem ends_succ (high : Bool) (ds : List (Int × Int × Int)) {k : Nat} (hk : k < ds.length) : (ds.take (k + 1)).map (endOf high) = (ds.take k).map (endOf high) ++ [endOf high (ds.getD k (0, 0, 0))] := by
  rw [List.take_succ_eq_append_getElem hk, List.map_append]
  simp [List.getElem?_eq_getElem hk]

set_option maxHeartbeats 2000000 in
theorem ends_ref (high : Bool) (hb : IsBath w w.heap.size A n c A' n' c' ss ds) (h100 : n' ≤ 100) :
    Calls Try.prog 61 #[.agg #[.int .i64 Wd, .slice A n c, .slice A' n' c'], .bool high] w fun e w' => ∃ v, e = .returned v ∧ Made64 w.heap.size (ds.map (endOf high)) w' v ∧ Ext w w' := by
  obtain ⟨i0, hi, hz0, hz1, hz2⟩ := info_parts info2
  have HI := Lib.hid hi
  have HZ0 := Lib.hid hz0
  have HZ1 := Lib.hid hz1
  have HZ2 := Lib.hid hz2
  have h0 := BathAt.new (Wd := Wd) hb
  have hnd := hb.nds
  have HND := Lib.hid hnd
  clear hi hz0 hz1 hz2 hnd hb
  go_enter Try.func61, Try.ntmps61
  go_wp2
  obtain ⟨w0, hw0⟩ : ∃ w0, w.alloc (.cells #[.int .i64 Wd, .slice A n c, .slice A' n' c'] 25) = w0 := ⟨_, rfl⟩
  have e0 : Ext w w0 := by rw [← hw0]; exact ext_alloc w _
  have z0 : w0.heap.size = w.heap.size + 1 := by rw [← hw0]; simp
  rw [hw0] at h0 ⊢
  have E0 := Lib.hid e0
  have H0 := Lib.hid h0
  clear hw0 e0 h0
  go_loopw [5, 6, 7] (fun v i _ wr => ∃ k : Nat, k ≤ n' ∧ i = .int .i64 k ∧ Hid (Ext w0 wr) ∧ Hid (Made64 (w.heap.size + 1) ((ds.take k).map (endOf high)) wr v)) (fun _ i _ _ => n' - (intOf i).toNat)
  case atStart => exact ⟨0, Nat.zero_le _, rfl, Lib.hid (Ext.refl _), Lib.hid ⟨World.ownsRow_nil _ _ _ _, fun _ => rfl⟩⟩
  case round =>
    obtain ⟨k, hk, rfl, hB, hO⟩ := hrel
    have hsz := hB.out.size
    have hx := H0.out.ext hB.out
    obtain ⟨q0, q1, q2⟩ := hx.cells
    by_cases hlt : k < n'
    · have hltz : (k : Int) < (n' : Int) := by omega
      obtain ⟨b, off, rfl, d0, d1, d2⟩ := hx.drop hlt
      have hs := ends_succ high ds (k := k) (by rw [← HND.out]; exact hlt)
      have hl : ((ds.take k).map (endOf high)).length ≤ 100 := by simp; omega
      obtain ⟨x, hxx⟩ : ∃ x, endOf high (ds.getD k (0, 0, 0)) = x := ⟨_, rfl⟩
      rw [hxx] at hs
      have HS := Lib.hid hs
      clear hs hx q0 q1
      cases high with
      | true =>
        have hxx' : (ds.getD k (0, 0, 0)).2.2 = x := hxx
        rw [hxx'] at d2
        clear hxx hxx' d0
        generalize (ds.getD k (0, 0, 0)).2.1 = y at d1
        go_wp2_with (first | (at_builtin; refine wpList_append_own _ rfl (.tmp 30) (.tmp 32) 55 rfl (w.heap.size + 1) 2 i0 (.int .i64 0) 1 8 Try.underlying55 HI.out HZ0.out HZ1.out HZ2.out rfl (by decide) _ ((ds.take k).map (endOf true)).length _ rfl (hO.out.1.alloc _) ⟨wr.heap.size, 0, none⟩ 1 1 [.int .i64 x] rfl rfl (cell_one_new _ _ _) (one_cell' _) ?c3 ?c4 ?c5 ?_))
        case c3 => unfold maxLen; omega
        case c4 => omega
        case c5 => simp; omega
        · intro v' w1 hown' hgrow _
          have hB1 : Hid (Ext w0 w1) := Lib.hid (((hB.out.alloc hsz (.cells #[.int .i64 x] 2)).grown hgrow (by simp; omega) (fun b e => by have := (hO.out.1.lt b e).1; omega)))
          have hO1 : Hid (Made64 (w.heap.size + 1) ((ds.take (k + 1)).map (endOf true)) w1 v') := Lib.hid ⟨by
            rw [HS.out, List.length_append, List.map_append]
            simpa using hown', fun e => by rw [HS.out] at e; simp at e⟩
          clear hown' hgrow hO hB
          go_wp2
          go_roundw
          case measure => simp [intOf]; omega
          case rel => exact ⟨k + 1, by omega, by go_num, hB1, hO1⟩
      | false =>
        have hxx' : (ds.getD k (0, 0, 0)).2.1 = x := hxx
        rw [hxx'] at d1
        clear hxx hxx' d0 d2
        go_wp2_with (first | (at_builtin; refine wpList_append_own _ rfl (.tmp 30) (.tmp 32) 55 rfl (w.heap.size + 1) 2 i0 (.int .i64 0) 1 8 Try.underlying55 HI.out HZ0.out HZ1.out HZ2.out rfl (by decide) _ ((ds.take k).map (endOf false)).length _ rfl (hO.out.1.alloc _) ⟨wr.heap.size, 0, none⟩ 1 1 [.int .i64 x] rfl rfl (cell_one_new _ _ _) (one_cell' _) ?c3 ?c4 ?c5 ?_))
        case c3 => unfold maxLen; omega
        case c4 => omega
        case c5 => simp; omega
        · intro v' w1 hown' hgrow _
          have hB1 : Hid (Ext w0 w1) := Lib.hid (((hB.out.alloc hsz (.cells #[.int .i64 x] 2)).grown hgrow (by simp; omega) (fun b e => by have := (hO.out.1.lt b e).1; omega)))
          have hO1 : Hid (Made64 (w.heap.size + 1) ((ds.take (k + 1)).map (endOf false)) w1 v') := Lib.hid ⟨by
            rw [HS.out, List.length_append, List.map_append]
            simpa using hown', fun e => by rw [HS.out] at e; simp at e⟩
          clear hown' hgrow hO hB
          go_wp2
          go_roundw
          case measure => simp [intOf]; omega
          case rel => exact ⟨k + 1, by omega, by go_num, hB1, hO1⟩
    · have hltz : ¬ (k : Int) < (n' : Int) := by omega
      obtain rfl : k = n' := by omega
      clear hx
      go_wp2
      go_ret
      refine ⟨_, rfl, ?_, E0.out.trans hB.out⟩
      have := hO.out
      rw [HND.out, List.take_length] at this
      exact ⟨owns_mono this.1 (by omega), this.2⟩
end
end Go.Proofs.Ytckndnaohggmhaa

/- The reference's SizeOf: the sum of the numbers of the drops on a spot. -/
namespace Go.Proofs.Ytckndnaohggmhaa
open Go.RowKit Go.Shelf

/-- The sum of the numbers of those of the first k drops that are on spot x. -/
def sumAt (ds : List (Int × Int × Int)) (ts : List Int) (x : Int) : Nat → Int
  | 0 => 0
  | k + 1 => sumAt ds ts x k + (if (ds.getD k (0, 0, 0)).1 = x then ts.getD k 0 else 0)
theorem sumAt_bd (ds : List (Int × Int × Int)) (ts : List Int) (x : Int) (h : ∀ k, 0 ≤ ts.getD k 0 ∧ ts.getD k 0 ≤ 10000) : ∀ k : Nat, 0 ≤ sumAt ds ts x k ∧ sumAt ds ts x k ≤ 10000 * k
  | 0 => by simp [sumAt]
  | k + 1 => by
    have h1 := sumAt_bd ds ts x h k
    have h2 := h k
    simp only [sumAt]
    split <;> omega

section
variable {w : World} {Wd : Int} {A : Option Addr} {n c : Nat} {A' : Option Addr} {n' c' : Nat} {ss : List (Int × Int)} {ds : List (Int × Int × Int)}

set_option maxHeartbeats 1000000 in
theorem sizeOf_ref (T : Option Addr) (m cT : Nat) (ts : List Int) (x : Int) (hb : IsBath w w.heap.size A n c A' n' c' ss ds) (h100 : n' ≤ 100) (hm : m = ts.length) (hmn : n' ≤ m) (hmm : m ≤ 9223372036854775807) (ht : Held w w.heap.size 1 encI T ts)
    (hbd : ∀ k, 0 ≤ ts.getD k 0 ∧ ts.getD k 0 ≤ 10000) :
    Calls Try.prog 45 #[.agg #[.int .i64 Wd, .slice A n c, .slice A' n' c'], .slice T m cT, .int .i64 x] w fun e w' => e = .returned (.int .i64 (sumAt ds ts x n')) ∧ Ext w w' := by
  have h0 := BathAt.new (Wd := Wd) hb
  have HM := Lib.hid hm
  have HBD := Lib.hid (fun k => sumAt_bd ds ts x hbd k)
  have HB := Lib.hid hbd
  clear hb hm hbd
  go_enter Try.func45, Try.ntmps45
  go_wp2
  obtain ⟨w0, hw0⟩ : ∃ w0, w.alloc (.cells #[.int .i64 Wd, .slice A n c, .slice A' n' c'] 25) = w0 := ⟨_, rfl⟩
  have e0 : Ext w w0 := by rw [← hw0]; exact ext_alloc w _
  rw [hw0] at h0 ⊢
  have E0 := Lib.hid e0
  have H0 := Lib.hid h0
  clear hw0 e0 h0
  go_loopw [7, 8] (fun s i wr => ∃ k : Nat, k ≤ n' ∧ i = .int .i64 k ∧ s = .int .i64 (sumAt ds ts x k) ∧ Hid (Ext w0 wr)) (fun _ i _ => n' - (intOf i).toNat)
  case atStart => exact ⟨0, Nat.zero_le _, rfl, rfl, Lib.hid (Ext.refl _)⟩
  case round =>
    obtain ⟨k, hk, rfl, rfl, hB⟩ := hrel
    have hx := H0.out.ext hB.out
    obtain ⟨q0, q1, q2⟩ := hx.cells
    by_cases hlt : k < n'
    · have hltz : (k : Int) < (n' : Int) := by omega
      have hkm : (k : Int) < (m : Int) := by omega
      obtain ⟨b, off, rfl, d0, d1, d2⟩ := hx.drop hlt
      have hkt : k < ts.length := by rw [← HM.out]; omega
      obtain ⟨b', off', rfl, hc⟩ := held_get ht (E0.out.trans hB.out) hkt
      have hs : sumAt ds ts x (k + 1) = sumAt ds ts x k + (if (ds.getD k (0, 0, 0)).1 = x then ts.getD k 0 else 0) := rfl
      have hg : ts.getD k 0 = ts[k] := by simp [List.getElem?_eq_getElem hkt]
      have b1 := HBD.out k
      have b2 := HB.out k
      rw [hg] at b2 hs
      obtain ⟨s, hsx⟩ : ∃ s, sumAt ds ts x k = s := ⟨_, rfl⟩
      rw [hsx] at b1 hs ⊢
      obtain ⟨y, hy⟩ : ∃ y, (ds.getD k (0, 0, 0)).1 = y := ⟨_, rfl⟩
      rw [hy] at d0 hs
      obtain ⟨t, htt⟩ : ∃ t, ts[k] = t := ⟨_, rfl⟩
      rw [htt] at hc b2 hs
      have hs1 : s ≤ 1000000 := by omega
      obtain ⟨hs0, _⟩ := b1
      obtain ⟨ht0, ht1⟩ := b2
      clear hx q0 q1 d1 d2 hsx hy htt hg ht
      by_cases hyx : y = x
      · have HS : Hid (sumAt ds ts x (k + 1) = s + t) := Lib.hid (by rw [hs, if_pos hyx])
        subst hyx
        clear hs
        go_wp2
        go_roundw
        case measure => simp [intOf]; omega
        case rel => exact ⟨k + 1, by omega, by go_num, by rw [HS.out], hB⟩
      · have HS : Hid (sumAt ds ts x (k + 1) = s) := Lib.hid (by rw [hs, if_neg hyx]; omega)
        have hyx2 : (y == x) = false := by simp [hyx]
        clear hs
        go_wp2
        go_roundw
        case measure => simp [intOf]; omega
        case rel => exact ⟨k + 1, by omega, by go_num, by rw [HS.out], hB⟩
    · have hltz : ¬ (k : Int) < (n' : Int) := by omega
      obtain rfl : k = n' := by omega
      clear hx
      go_wp2
      go_ret
      exact ⟨rfl, E0.out.trans hB.out⟩
end

/-- The ends of a size are the sums of the ends of the drops. -/
theorem sumAt_ends (high : Bool) (ds : List (Int × Int × Int)) (i : Nat) : sumAt ds (ds.map (endOf high)) i ds.length = if high then (sizes ds i).2 else (sizes ds i).1 := by
  have key : ∀ k, k ≤ ds.length → sumAt ds (ds.map (endOf high)) i k = if high then (sizes (ds.take k) i).2 else (sizes (ds.take k) i).1 := by
    intro k
    induction k with
    | zero => intro _; cases high <;> simp [sumAt, sizes]
    | succ k ih =>
      intro hk
      have hkl : k < ds.length := by omega
      rw [sizes_snoc ds k hkl]
      simp only [sumAt]
      rw [ih (by omega)]
      have e1 : ds.getD k (0, 0, 0) = ds[k] := by simp [List.getElem?_eq_getElem hkl]
      have e2 : (ds.map (endOf high)).getD k 0 = endOf high ds[k] := by simp [List.getElem?_eq_getElem hkl]
      rw [e1, e2]
      unfold addTo endOf
      by_cases hx : (ds[k]).1 = (i : Int) <;> cases high <;> simp [hx]
  rw [key _ (Nat.le_refl _), List.take_length]
end Go.Proofs.Ytckndnaohggmhaa

/- The reference's CheckBath: the same error. -/
namespace Go.Proofs.Ytckndnaohggmhaa
open Go.RowKit Go.Shelf

theorem bathErr_width {Wd : Int} {ss : List (Int × Int)} {ds : List (Int × Int × Int)} (h : ¬ (2 ≤ Wd ∧ Wd ≤ 1000)) : bathErr Wd ss ds = 2 := by
  unfold bathErr
  rw [if_neg (by simp [inside]; omega)]
theorem bathErr_more {Wd : Int} {ss : List (Int × Int)} {ds : List (Int × Int × Int)} (h : 2 ≤ Wd ∧ Wd ≤ 1000) : bathErr Wd ss ds = if ss.length ≤ 10 ∧ ds.length ≤ 40 then if ss.all (spotOk Wd) then if ss.Nodup then if ds.all (dropOk ss.length) then 0 else 16 else 15 else 3 else 6 := by
  unfold bathErr
  rw [if_pos (by simp [inside]; omega)]
theorem take_all_succ {α : Type} (p : α → Bool) (xs : List α) {k : Nat} (hk : k < xs.length) (x : α) (hx : xs.getD k x = x) (h : (xs.take k).all p = true) (hp : p x = true) : (xs.take (k + 1)).all p = true := by
  have e : xs[k] = x := by rw [← hx]; simp [List.getElem?_eq_getElem hk]
  rw [List.take_succ_eq_append_getElem hk, List.all_append, h, e]
  simp [hp]
theorem all_no {α : Type} (p : α → Bool) (xs : List α) {k : Nat} (hk : k < xs.length) (x : α) (hx : xs.getD k x = x) (hp : p x = false) : xs.all p = false := by
  have e : xs[k] = x := by rw [← hx]; simp [List.getElem?_eq_getElem hk]
  rw [List.all_eq_false]
  exact ⟨x, e ▸ List.getElem_mem hk, by simp [hp]⟩
theorem nodup_succ {α : Type} (xs : List α) {k : Nat} (hk : k < xs.length) (h : (xs.take k).Nodup) (hn : ∀ j, (hj : j < k) → xs[k] ≠ xs[j]'(by omega)) : (xs.take (k + 1)).Nodup := by
  rw [List.take_succ_eq_append_getElem hk, List.nodup_append]
  refine ⟨h, by simp, fun a ha b hb => ?_⟩
  simp only [List.mem_singleton] at hb
  subst hb
  obtain ⟨j, hj, rfl⟩ := List.mem_iff_getElem.1 ha
  have hjk : j < k := by simp at hj; omega
  rw [List.getElem_take]
  exact fun e => hn j hjk e.symm

section
variable {w : World} {Wd : Int} {A : Option Addr} {n c : Nat} {A' : Option Addr} {n' c' : Nat} {ss : List (Int × Int)} {ds : List (Int × Int × Int)}

set_option maxRecDepth 100000 in
set_option maxHeartbeats 8000000 in
theorem checkBath_ref (hb : IsBath w w.heap.size A n c A' n' c' ss ds) :
    Calls Try.prog 20 #[.agg #[.int .i64 Wd, .slice A n c, .slice A' n' c']] w fun e w' => e = .returned (.int .i64 (bathErr Wd ss ds)) ∧ Ext w w' := by
  obtain ⟨ans, hans⟩ : ∃ ans, bathErr Wd ss ds = ans := ⟨_, rfl⟩
  rw [hans]
  have h0 := BathAt.new (Wd := Wd) hb
  obtain ⟨w0, hw0⟩ : ∃ w0, w.alloc (.cells #[.int .i64 Wd, .slice A n c, .slice A' n' c'] 25) = w0 := ⟨_, rfl⟩
  have e0 : Ext w w0 := by rw [← hw0]; exact ext_alloc w _
  rw [hw0] at h0
  have HW := Lib.hid hw0
  have E0 := Lib.hid e0
  have H0 := Lib.hid h0
  have HANS := Lib.hid hans
  have HNS := Lib.hid hb.nss
  have HND := Lib.hid hb.nds
  clear hw0 e0 h0 hans hb
  by_cases h1 : Wd < 2
  · obtain rfl : ans = 2 := by rw [← HANS.out]; exact bathErr_width (by omega)
    go_enter Try.func20, Try.ntmps20
    go_wp2
    go_ret
    exact ⟨rfl, by rw [HW.out]; exact E0.out⟩
  by_cases h2 : 1000 < Wd
  · obtain rfl : ans = 2 := by rw [← HANS.out]; exact bathErr_width (by omega)
    go_enter Try.func20, Try.ntmps20
    go_wp2
    go_ret
    exact ⟨rfl, by rw [HW.out]; exact E0.out⟩
  have HANS2 : Hid (ans = if ss.length ≤ 10 ∧ ds.length ≤ 40 then if ss.all (spotOk Wd) then if ss.Nodup then if ds.all (dropOk ss.length) then 0 else 16 else 15 else 3 else 6) := Lib.hid (by rw [← HANS.out]; exact bathErr_more (by omega))
  clear HANS
  by_cases h3 : 10 < n
  · obtain rfl : ans = 6 := by rw [HANS2.out, if_neg (by rw [← HNS.out]; omega)]
    have h3z : (10 : Int) < (n : Int) := by omega
    go_enter Try.func20, Try.ntmps20
    go_wp2
    go_ret
    exact ⟨rfl, by rw [HW.out]; exact E0.out⟩
  by_cases h4 : 40 < n'
  · obtain rfl : ans = 6 := by rw [HANS2.out, if_neg (by rw [← HND.out]; omega)]
    have h3z : ¬ (10 : Int) < (n : Int) := by omega
    have h4z : (40 : Int) < (n' : Int) := by omega
    go_enter Try.func20, Try.ntmps20
    go_wp2
    go_ret
    exact ⟨rfl, by rw [HW.out]; exact E0.out⟩
  have HANS : Hid (ans = if ss.all (spotOk Wd) then if ss.Nodup then if ds.all (dropOk ss.length) then 0 else 16 else 15 else 3) := Lib.hid (by rw [HANS2.out, if_pos (by rw [← HNS.out, ← HND.out]; omega)])
  clear HANS2
  have h3z : ¬ (10 : Int) < (n : Int) := by omega
  have h4z : ¬ (40 : Int) < (n' : Int) := by omega
  go_enter Try.func20, Try.ntmps20
  go_wp2
  rw [HW.out]
  clear h1 h2 h3z h4z HW
  go_loopw [3] (fun i wr => ∃ k : Nat, k ≤ n ∧ i = .int .i64 k ∧ Hid (Ext w0 wr) ∧ Hid ((ss.take k).all (spotOk Wd) = true)) (fun i _ => n - (intOf i).toNat)
  case atStart => exact ⟨0, Nat.zero_le _, rfl, Lib.hid (Ext.refl _), Lib.hid rfl⟩
  case round =>
    obtain ⟨k, hk, rfl, hB, hA⟩ := hrel
    have hx := H0.out.ext hB.out
    obtain ⟨q0, q1, q2⟩ := hx.cells
    by_cases hlt : k < n
    · have hltz : (k : Int) < (n : Int) := by omega
      obtain ⟨b, off, rfl, d0, d1⟩ := hx.spot hlt
      have hkl : k < ss.length := by rw [← HNS.out]; exact hlt
      obtain ⟨p, hp⟩ : ∃ p, ss.getD k (0, 0) = p := ⟨_, rfl⟩
      have hp2 : ss.getD k p = p := by rw [← hp]; simp [List.getElem?_eq_getElem hkl]
      rw [hp] at d0 d1
      obtain ⟨X, Y⟩ := p
      simp only at d0 d1
      have HP := Lib.hid hp2
      clear hx hp hp2
      have fail3 : spotOk Wd (X, Y) = false → ans = 3 := fun h => by rw [HANS.out, if_neg (by rw [all_no (spotOk Wd) ss hkl _ HP.out h]; simp)]
      have F3 := Lib.hid fail3
      clear fail3
      by_cases g1 : X < 1
      · obtain rfl : ans = 3 := F3.out (by simp [spotOk, inside]; omega)
        go_wp2
        go_quiet (fail)
        go_wp2
        go_ret
        exact ⟨rfl, E0.out.trans (ext_drewN hB.out _)⟩
      have g1' : decide (X < 1) = false := by simp [g1]
      by_cases g2 : Wd ≤ X
      · obtain rfl : ans = 3 := F3.out (by simp [spotOk, inside]; omega)
        go_wp2
        go_quiet (fail)
        go_wp2
        go_ret
        exact ⟨rfl, E0.out.trans (ext_drewN hB.out _)⟩
      have g2' : decide (Wd ≤ X) = false := by simp [g2]
      by_cases g3 : Y < 0
      · obtain rfl : ans = 3 := F3.out (by simp [spotOk, inside]; omega)
        go_wp2
        go_quiet (fail)
        go_wp2
        go_ret
        exact ⟨rfl, E0.out.trans (ext_drewN hB.out _)⟩
      have g3' : decide (Y < 0) = false := by simp [g3]
      by_cases g4 : 1000 < Y
      · obtain rfl : ans = 3 := F3.out (by simp [spotOk, inside]; omega)
        go_wp2
        go_quiet (fail)
        go_wp2
        go_ret
        exact ⟨rfl, E0.out.trans (ext_drewN hB.out _)⟩
      have g4' : decide (1000 < Y) = false := by simp [g4]
      have hA1 : Hid ((ss.take (k + 1)).all (spotOk Wd) = true) := Lib.hid (take_all_succ _ _ hkl _ HP.out hA.out (by simp [spotOk, inside]; omega))
      clear F3 hA
      go_wp2
      go_quiet (fail)
      go_wp2
      go_roundw
      case measure => simp [intOf]; omega
      case rel => exact ⟨k + 1, by omega, by go_num, Lib.hid (ext_drewN hB.out _), hA1⟩
    · have hltz : ¬ (k : Int) < (n : Int) := by omega
      have hkn : k = n := by omega
      have HAN : Hid (ans = if ss.Nodup then if ds.all (dropOk ss.length) then 0 else 16 else 15) := Lib.hid (by
        have := hA.out
        rw [hkn, HNS.out, List.take_length] at this
        rw [HANS.out, if_pos this])
      clear HANS hA hx
      go_wp2
      clear q0 q1 q2 hltz hlt
      have EB := hB
      clear hB hk
      go_loopw [4, 5] (fun i _ wr => ∃ k : Nat, k ≤ n ∧ i = .int .i64 k ∧ Hid (Ext w0 wr) ∧ Hid ((ss.take k).Nodup)) (fun i _ _ => n - (intOf i).toNat)
      case atStart => exact ⟨0, Nat.zero_le _, rfl, EB, Lib.hid List.nodup_nil⟩
      case round =>
        obtain ⟨k, hk, rfl, hB, hA⟩ := hrel
        have hx := H0.out.ext hB.out
        obtain ⟨q0, q1, q2⟩ := hx.cells
        by_cases hlt : k < n
        · have hltz : (k : Int) < (n : Int) := by omega
          have hkl : k < ss.length := by rw [← HNS.out]; exact hlt
          clear hx
          go_wp2
          clear q0 q1 q2
          go_loopw [5] (fun i wr => ∃ j : Nat, j ≤ k ∧ i = .int .i64 j ∧ Hid (Ext w0 wr) ∧ Hid (∀ m, (hm : m < j) → (hl : m < ss.length) → ss[k] ≠ ss[m])) (fun i _ => k - (intOf i).toNat)
          case atStart => exact ⟨0, Nat.zero_le _, rfl, hB, Lib.hid (fun m hm => absurd hm (by omega))⟩
          case round =>
            obtain ⟨j, hj, rfl, hB2, hN⟩ := hrel
            have hx := H0.out.ext hB2.out
            obtain ⟨q0, q1, q2⟩ := hx.cells
            by_cases hjk : j < k
            · have hjkz : (j : Int) < (k : Int) := by omega
              have hjn : (j : Int) < (n : Int) := by omega
              have hjl : j < ss.length := by omega
              obtain ⟨b, off, rfl, d0, d1⟩ := hx.spot hlt
              obtain ⟨b', off', hbb, c0, c1⟩ := hx.spot (k := j) (by omega)
              cases hbb
              obtain ⟨x, hxk⟩ : ∃ x, ss[k] = x := ⟨_, rfl⟩
              obtain ⟨y, hyj⟩ : ∃ y, ss[j] = y := ⟨_, rfl⟩
              rw [show ss.getD k (0, 0) = x from by rw [← hxk]; simp [List.getElem?_eq_getElem hkl]] at d0 d1
              rw [show ss.getD j (0, 0) = y from by rw [← hyj]; simp [List.getElem?_eq_getElem hjl]] at c0 c1
              have HXY := Lib.hid (And.intro hxk hyj)
              clear hx hxk hyj
              have heq := eqSpot x y
              by_cases hxy : x = y
              · obtain rfl : ans = 15 := by
                  rw [HAN.out, if_neg]
                  intro hnd
                  exact List.pairwise_iff_getElem.1 hnd j k hjl hkl hjk (HXY.out.2.trans (hxy.symm.trans HXY.out.1.symm))
                subst hxy
                rw [show decide (x = x) = true from by simp] at heq
                clear HXY
                go_wp2
                go_quiet (fail)
                go_wp2
                go_ret
                exact ⟨rfl, E0.out.trans (ext_drewN hB2.out _)⟩
              · rw [show decide (x = y) = false from by simp [hxy]] at heq
                have hN1 : Hid (∀ m, (hm : m < j + 1) → (hl : m < ss.length) → ss[k] ≠ ss[m]) := Lib.hid fun m hm hl => by
                  by_cases e : m = j
                  · subst e
                    rw [HXY.out.1, HXY.out.2]
                    exact hxy
                  · exact hN.out m (by omega) hl
                clear HXY hxy hN
                go_wp2
                go_quiet (fail)
                go_wp2
                go_roundw
                case measure => simp [intOf]; omega
                case rel => exact ⟨j + 1, by omega, by go_num, Lib.hid (ext_drewN hB2.out _), hN1⟩
            · have hjkz : ¬ (j : Int) < (k : Int) := by omega
              have hjk2 : j = k := by omega
              have hA1 : Hid ((ss.take (k + 1)).Nodup) := Lib.hid (nodup_succ ss hkl hA.out fun m hm => hN.out m (by omega) (by omega))
              clear hx hN hA
              go_wp2
              go_roundw
              case measure => simp [intOf]; omega
              case rel => exact ⟨k + 1, by omega, by go_num, hB2, hA1⟩
        · have hltz : ¬ (k : Int) < (n : Int) := by omega
          have hkn : k = n := by omega
          have HAC : Hid (ans = if ds.all (dropOk ss.length) then 0 else 16) := Lib.hid (by
            have := hA.out
            rw [hkn, HNS.out, List.take_length] at this
            rw [HAN.out, if_pos this])
          clear HAN hA hx
          go_wp2
          clear q0 q1 q2 hltz hlt hk
          have EC := hB
          clear hB
          go_loopw [6, 7] (fun i _ wr => ∃ k : Nat, k ≤ n' ∧ i = .int .i64 k ∧ Hid (Ext w0 wr) ∧ Hid ((ds.take k).all (dropOk ss.length) = true)) (fun i _ _ => n' - (intOf i).toNat)
          case atStart => exact ⟨0, Nat.zero_le _, rfl, EC, Lib.hid rfl⟩
          case round =>
            obtain ⟨k, hk, rfl, hB, hA⟩ := hrel
            have hx := H0.out.ext hB.out
            obtain ⟨q0, q1, q2⟩ := hx.cells
            by_cases hlt : k < n'
            · have hltz : (k : Int) < (n' : Int) := by omega
              have hkl : k < ds.length := by rw [← HND.out]; exact hlt
              obtain ⟨b, off, rfl, d0, d1, d2⟩ := hx.drop hlt
              obtain ⟨p, hp⟩ : ∃ p, ds.getD k (0, 0, 0) = p := ⟨_, rfl⟩
              have hp2 : ds.getD k p = p := by rw [← hp]; simp [List.getElem?_eq_getElem hkl]
              rw [hp] at d0 d1 d2
              obtain ⟨S, Lo, Hi⟩ := p
              simp only at d0 d1 d2
              have HP := Lib.hid hp2
              have fail16 : dropOk ss.length (S, Lo, Hi) = false → ans = 16 := fun h => by rw [HAC.out, if_neg (by rw [all_no (dropOk ss.length) ds hkl _ HP.out h]; simp)]
              have F16 := Lib.hid fail16
              have pass16 : dropOk ss.length (S, Lo, Hi) = true → (ds.take (k + 1)).all (dropOk ss.length) = true := fun h => take_all_succ _ _ hkl _ HP.out hA.out h
              have P16 := Lib.hid pass16
              have eA : Ext wr (wr.alloc (.cells #[.int .i64 S, .int .i64 Lo, .int .i64 Hi] 62)) := ext_alloc wr _
              obtain ⟨t0, t1, t2⟩ := (hx.ext eA).cells
              have cS := isSpot_ref (Wd := Wd) (A := A) (n := n) (c := c) (A' := some ⟨b, off, none⟩) (n' := n') (c' := c') S (wr.alloc (.cells #[.int .i64 S, .int .i64 Lo, .int .i64 Hi] 62))
              clear hx
              by_cases g1 : 0 ≤ S ∧ S < (n : Int)
              · rw [show (decide (0 ≤ S) && decide (S < (n : Int))) = true from by simp [g1]] at cS
                by_cases g2 : Lo < 1
                · obtain rfl : ans = 16 := F16.out (by simp [dropOk, inside]; omega)
                  go_wp2_with (go_at_call 60; refine cS.mono ?_; rintro e w2 ⟨rfl, hb2⟩; have hd2 := row_ext (row_last wr (.cells #[.int .i64 S, .int .i64 Lo, .int .i64 Hi] 62) _ rfl) hb2; have u1 := cell_of_row _ _ 1 _ _ _ hd2; have u2 := cell_of_row _ _ 2 _ _ _ hd2; simp at u1 u2; clear hd2)
                  go_ret
                  exact ⟨rfl, E0.out.trans (hB.out.trans (eA.trans hb2))⟩
                have g2' : decide (Lo < 1) = false := by simp [g2]
                by_cases g3 : Hi < Lo
                · obtain rfl : ans = 16 := F16.out (by simp [dropOk, inside]; omega)
                  go_wp2_with (go_at_call 60; refine cS.mono ?_; rintro e w2 ⟨rfl, hb2⟩; have hd2 := row_ext (row_last wr (.cells #[.int .i64 S, .int .i64 Lo, .int .i64 Hi] 62) _ rfl) hb2; have u1 := cell_of_row _ _ 1 _ _ _ hd2; have u2 := cell_of_row _ _ 2 _ _ _ hd2; simp at u1 u2; clear hd2)
                  go_ret
                  exact ⟨rfl, E0.out.trans (hB.out.trans (eA.trans hb2))⟩
                have g3' : decide (Hi < Lo) = false := by simp [g3]
                by_cases g4 : 10000 < Hi
                · obtain rfl : ans = 16 := F16.out (by simp [dropOk, inside]; omega)
                  go_wp2_with (go_at_call 60; refine cS.mono ?_; rintro e w2 ⟨rfl, hb2⟩; have hd2 := row_ext (row_last wr (.cells #[.int .i64 S, .int .i64 Lo, .int .i64 Hi] 62) _ rfl) hb2; have u1 := cell_of_row _ _ 1 _ _ _ hd2; have u2 := cell_of_row _ _ 2 _ _ _ hd2; simp at u1 u2; clear hd2)
                  go_ret
                  exact ⟨rfl, E0.out.trans (hB.out.trans (eA.trans hb2))⟩
                have g4' : decide (10000 < Hi) = false := by simp [g4]
                have hA1 := Lib.hid (P16.out (by have := HNS.out; simp [dropOk, inside]; omega))
                clear F16 P16 hA
                go_wp2_with (go_at_call 60; refine cS.mono ?_; rintro e w2 ⟨rfl, hb2⟩; have hd2 := row_ext (row_last wr (.cells #[.int .i64 S, .int .i64 Lo, .int .i64 Hi] 62) _ rfl) hb2; have u1 := cell_of_row _ _ 1 _ _ _ hd2; have u2 := cell_of_row _ _ 2 _ _ _ hd2; simp at u1 u2; clear hd2)
                go_roundw
                case measure => simp [intOf]; omega
                case rel => exact ⟨k + 1, by omega, by go_num, Lib.hid (hB.out.trans (eA.trans hb2)), hA1⟩
              · rw [show (decide (0 ≤ S) && decide (S < (n : Int))) = false from by simp; omega] at cS
                obtain rfl : ans = 16 := F16.out (by have := HNS.out; simp [dropOk]; omega)
                go_wp2_with (go_at_call 60; refine cS.mono ?_; rintro e w2 ⟨rfl, hb2⟩; have hd2 := row_ext (row_last wr (.cells #[.int .i64 S, .int .i64 Lo, .int .i64 Hi] 62) _ rfl) hb2; have u1 := cell_of_row _ _ 1 _ _ _ hd2; have u2 := cell_of_row _ _ 2 _ _ _ hd2; simp at u1 u2; clear hd2)
                go_ret
                exact ⟨rfl, E0.out.trans (hB.out.trans (eA.trans hb2))⟩
            · have hltz : ¬ (k : Int) < (n' : Int) := by omega
              have hkn : k = n' := by omega
              obtain rfl : ans = 0 := by
                have := hA.out
                rw [hkn, HND.out, List.take_length] at this
                rw [HAC.out, if_pos this]
              clear hx
              go_wp2
              go_ret
              exact ⟨rfl, E0.out.trans hB.out⟩
end
end Go.Proofs.Ytckndnaohggmhaa

/- The reference's Size: what each of the operations of its last statement yields. -/
namespace Go.Proofs.Ytckndnaohggmhaa
open Go.RowKit Go.Shelf

theorem made64_held {base : Nat} {xs : List Int} {w : World} {v : Value} (h : Made64 base xs w v) : ∃ B c, v = .slice B xs.length c ∧ Held w w.heap.size 1 encI B xs := by
  by_cases hx : xs = []
  · exact ⟨none, 0, by rw [h.2 hx, hx]; rfl, .inl hx⟩
  · obtain ⟨g, cap, e, hg, hc⟩ := owns_cells h.1 (fun e => hx (List.eq_nil_of_length_eq_zero e))
    refine ⟨_, cap, e, .inr ⟨g, 0, rfl, hg, fun j x hj i u hu => ?_⟩⟩
    match i, hu with
    | 0, hu =>
      simp only [encI, List.getElem?_cons_zero, Option.some.injEq] at hu
      subst hu
      rw [Nat.zero_add, Nat.mul_one, Nat.add_zero]
      exact hc j _ (List.getElem?_eq_some_iff.1 hj).1 (by rw [List.getElem?_map, hj]; rfl)

/-- A list of numbers in a slice. -/
def IntsAt (xs : List Int) (v : Value) (W : World) : Prop := ∃ B c, v = .slice B xs.length c ∧ Held W W.heap.size 1 encI B xs
theorem IntsAt.ext {xs : List Int} {v : Value} {W W' : World} (h : IntsAt xs v W) (e : Ext W W') : IntsAt xs v W' := by
  obtain ⟨B, c, rfl, hh⟩ := h
  exact ⟨B, c, rfl, hh.ext e⟩

theorem ends_bd {Wd : Int} {ss : List (Int × Int)} {ds : List (Int × Int × Int)} (h : Few Wd ss ds) (high : Bool) (k : Nat) : 0 ≤ (ds.map (endOf high)).getD k 0 ∧ (ds.map (endOf high)).getD k 0 ≤ 10000 := by
  by_cases hk : k < ds.length
  · have h1 := List.all_eq_true.1 h.drops ds[k] (List.getElem_mem hk)
    simp only [dropOk, inside, Bool.and_eq_true, decide_eq_true_eq, List.all_cons, List.all_nil] at h1
    have e : (ds.map (endOf high)).getD k 0 = endOf high ds[k] := by simp [List.getElem?_eq_getElem hk]
    rw [e]
    unfold endOf
    cases high <;> simp <;> omega
  · have e : (ds.map (endOf high)).getD k 0 = 0 := by simp [List.getElem?_eq_none (Nat.le_of_not_lt hk)]
    rw [e]
    omega

/-- What each operation of Size's last statement yields. -/
def sizeS (Wd : Int) (A : Option Addr) (n c : Nat) (A' : Option Addr) (n' c' : Nat) (ds : List (Int × Int × Int)) (i : Nat) (k : Nat) (v : Value) (W : World) : Prop :=
  match k with
  | 2 => IntsAt (ds.map (endOf false)) v W
  | 3 => v = .int .i64 (i : Int)
  | 4 => v = .int .i64 (sizes ds i).1
  | 7 => IntsAt (ds.map (endOf true)) v W
  | 8 => v = .int .i64 (i : Int)
  | 9 => v = .int .i64 (sizes ds i).2
  | 10 => v = .agg #[.int .i64 (sizes ds i).1, .int .i64 (sizes ds i).2]
  | _ => v = .agg #[.int .i64 Wd, .slice A n c, .slice A' n' c']
theorem sizeS_ext (Wd : Int) (A : Option Addr) (n c : Nat) (A' : Option Addr) (n' c' : Nat) (ds : List (Int × Int × Int)) (i : Nat) (k : Nat) (v : Value) (W W' : World) (h : sizeS Wd A n c A' n' c' ds i k v W) (e : Below W.heap.size W W') : sizeS Wd A n c A' n' c' ds i k v W' := by
  unfold sizeS at h ⊢
  split at h <;> first | exact h | exact IntsAt.ext h e
noncomputable def sizeReg : Array Oper := (Try.f18.body.bind (regionOf · 5)).getD #[]
def SizeOk (Wd : Int) (A : Option Addr) (n c : Nat) (A' : Option Addr) (n' c' : Nat) (ds : List (Int × Int × Int)) (i : Nat) (Q : Exit → Act → World → Prop) (a : Act) (W : World) (k : Nat) (o : Oper) : Prop :=
  (∀ j b, o.guard = some (j, b) → a.eval (.tmp (17 + j)) = .bool b) ∧ o.wp Try.prog a W (fun a'' W' => ∃ v, a'' = a.put o.dst v ∧ sizeS Wd A n c A' n' c' ds i k v W' ∧ Below W.heap.size W W') Q

section
variable {Wd : Int} {A : Option Addr} {n c : Nat} {A' : Option Addr} {n' c' : Nat} {ss : List (Int × Int)} {ds : List (Int × Int × Int)} {i p : Nat} {Q : Exit → Act → World → Prop} {a : Act} {V W : World} {o : Oper}

theorem size_op0 (ho : sizeReg[0]? = some o) (hB : Ext V W) (hx : BathAt V p Wd A n c A' n' c' ss ds) (o2 : a.eval (.tmp 2) = .pointer (some ⟨p, 0, none⟩)) (_o1 : a.eval (.tmp 1) = .int .i64 (i : Int)) (_h0 : bathErr Wd ss ds = 0) (_haft : ∀ j, (o.after.any fun e => decide (e.on = j) && Region.binds .any e) = true → sizeS Wd A n c A' n' c' ds i j (a.eval (.tmp (17 + j))) W) : SizeOk Wd A n c A' n' c' ds i Q a W 0 o := by
  have hop := op_at ho (·.op) (x := .load 25 (.tmp 2)) (by kernel_rfl)
  have hgd := op_at ho (·.guard) (x := none) (by kernel_rfl)
  have hX := hx.ext hB
  obtain ⟨q0, q1, q2⟩ := hX.cells
  refine ⟨fun j b h => (by rw [hgd] at h; cases h), ?_⟩
  exact specs_value (R := sizeS Wd A n c A' n' c' ds i 0) (v := (.agg #[.int .i64 Wd, .slice A n c, .slice A' n' c'] : Value)) (by simp [execOp, hop, go_sem, ev o2, q0, q1, q2]) rfl (Ext.refl W)
theorem size_op1 (ho : sizeReg[1]? = some o) (hB : Ext V W) (hx : BathAt V p Wd A n c A' n' c' ss ds) (o2 : a.eval (.tmp 2) = .pointer (some ⟨p, 0, none⟩)) (_o1 : a.eval (.tmp 1) = .int .i64 (i : Int)) (_h0 : bathErr Wd ss ds = 0) (_haft : ∀ j, (o.after.any fun e => decide (e.on = j) && Region.binds .any e) = true → sizeS Wd A n c A' n' c' ds i j (a.eval (.tmp (17 + j))) W) : SizeOk Wd A n c A' n' c' ds i Q a W 1 o := by
  have hop := op_at ho (·.op) (x := .load 25 (.tmp 2)) (by kernel_rfl)
  have hgd := op_at ho (·.guard) (x := none) (by kernel_rfl)
  have hX := hx.ext hB
  obtain ⟨q0, q1, q2⟩ := hX.cells
  refine ⟨fun j b h => (by rw [hgd] at h; cases h), ?_⟩
  exact specs_value (R := sizeS Wd A n c A' n' c' ds i 1) (v := (.agg #[.int .i64 Wd, .slice A n c, .slice A' n' c'] : Value)) (by simp [execOp, hop, go_sem, ev o2, q0, q1, q2]) rfl (Ext.refl W)
theorem size_op2 (ho : sizeReg[2]? = some o) (hB : Ext V W) (hx : BathAt V p Wd A n c A' n' c' ss ds) (_o2 : a.eval (.tmp 2) = .pointer (some ⟨p, 0, none⟩)) (_o1 : a.eval (.tmp 1) = .int .i64 (i : Int)) (h0 : bathErr Wd ss ds = 0) (haft : ∀ j, (o.after.any fun e => decide (e.on = j) && Region.binds .any e) = true → sizeS Wd A n c A' n' c' ds i j (a.eval (.tmp (17 + j))) W) : SizeOk Wd A n c A' n' c' ds i Q a W 2 o := by
  have hop := op_at ho (·.op) (x := .call { callee := .value (.func 61), args := #[.tmp 18, .const (.bool false)], argTypes := #[25, 4] }) (by kernel_rfl)
  have hgd := op_at ho (·.guard) (x := none) (by kernel_rfl)
  have hX := hx.ext hB
  have e1 : a.eval (.tmp 18) = (.agg #[.int .i64 Wd, .slice A n c, .slice A' n' c'] : Value) := haft 1 (op_at ho (fun o => o.after.any fun e => decide (e.on = 1) && Region.binds .any e) (x := true) (by kernel_rfl))
  refine ⟨fun j b h => (by rw [hgd] at h; cases h), ?_⟩
  have hc := ends_ref (Wd := Wd) false hX.bath (by have := (bath_ok h0).2.1.2; have := hX.bath.nds; omega)
  exact specs_call (R := sizeS Wd A n c A' n' c' ds i 2) (f := 61) (args := #[(.agg #[.int .i64 Wd, .slice A n c, .slice A' n' c'] : Value), .bool false]) (by simp [execOp, hop, go_sem, ev e1]) (hc.mono fun e w' h => by
    obtain ⟨v, rfl, hM, hE⟩ := h
    exact ⟨v, rfl, made64_held hM, hE⟩)
theorem size_op3 (ho : sizeReg[3]? = some o) (hB : Ext V W) (hx : BathAt V p Wd A n c A' n' c' ss ds) (_o2 : a.eval (.tmp 2) = .pointer (some ⟨p, 0, none⟩)) (o1 : a.eval (.tmp 1) = .int .i64 (i : Int)) (_h0 : bathErr Wd ss ds = 0) (_haft : ∀ j, (o.after.any fun e => decide (e.on = j) && Region.binds .any e) = true → sizeS Wd A n c A' n' c' ds i j (a.eval (.tmp (17 + j))) W) : SizeOk Wd A n c A' n' c' ds i Q a W 3 o := by
  have hop := op_at ho (·.op) (x := .move (.tmp 1)) (by kernel_rfl)
  have hgd := op_at ho (·.guard) (x := none) (by kernel_rfl)
  have hX := hx.ext hB
  refine ⟨fun j b h => (by rw [hgd] at h; cases h), ?_⟩
  exact specs_value (R := sizeS Wd A n c A' n' c' ds i 3) (v := .int .i64 (i : Int)) (by simp [execOp, hop, go_sem, ev o1]) rfl (Ext.refl W)
theorem size_op4 (ho : sizeReg[4]? = some o) (hB : Ext V W) (hx : BathAt V p Wd A n c A' n' c' ss ds) (_o2 : a.eval (.tmp 2) = .pointer (some ⟨p, 0, none⟩)) (_o1 : a.eval (.tmp 1) = .int .i64 (i : Int)) (h0 : bathErr Wd ss ds = 0) (haft : ∀ j, (o.after.any fun e => decide (e.on = j) && Region.binds .any e) = true → sizeS Wd A n c A' n' c' ds i j (a.eval (.tmp (17 + j))) W) : SizeOk Wd A n c A' n' c' ds i Q a W 4 o := by
  have hop := op_at ho (·.op) (x := .call { callee := .value (.func 45), args := #[.tmp 17, .tmp 19, .tmp 20], argTypes := #[25, 55, 3] }) (by kernel_rfl)
  have hgd := op_at ho (·.guard) (x := none) (by kernel_rfl)
  have hX := hx.ext hB
  have e0 : a.eval (.tmp 17) = (.agg #[.int .i64 Wd, .slice A n c, .slice A' n' c'] : Value) := haft 0 (op_at ho (fun o => o.after.any fun e => decide (e.on = 0) && Region.binds .any e) (x := true) (by kernel_rfl))
  obtain ⟨T, cT, e2, hT⟩ := haft 2 (op_at ho (fun o => o.after.any fun e => decide (e.on = 2) && Region.binds .any e) (x := true) (by kernel_rfl))
  rw [show 17 + 2 = 19 from rfl] at e2
  have e3 : a.eval (.tmp 20) = .int .i64 (i : Int) := haft 3 (op_at ho (fun o => o.after.any fun e => decide (e.on = 3) && Region.binds .any e) (x := true) (by kernel_rfl))
  refine ⟨fun j b h => (by rw [hgd] at h; cases h), ?_⟩
  have hc := sizeOf_ref (Wd := Wd) T _ cT (ds.map (endOf false)) (i : Int) hX.bath (by have := (bath_ok h0).2.1.2; have := hX.bath.nds; omega) rfl (by rw [List.length_map, hX.bath.nds]; exact Nat.le_refl _) (by rw [List.length_map]; have := (bath_ok h0).2.1.2; omega) hT (ends_bd (bath_few h0) false)
  rw [hX.bath.nds, sumAt_ends] at hc
  exact specs_call (R := sizeS Wd A n c A' n' c' ds i 4) (f := 45) (args := #[(.agg #[.int .i64 Wd, .slice A n c, .slice A' n' c'] : Value), .slice T (ds.map (endOf false)).length cT, .int .i64 (i : Int)]) (by simp [execOp, hop, go_sem, ev e0, ev e2, ev e3]) (by rw [hX.bath.nds]; exact hc.mono fun e w' h => ⟨_, h.1, rfl, h.2⟩)
theorem size_op5 (ho : sizeReg[5]? = some o) (hB : Ext V W) (hx : BathAt V p Wd A n c A' n' c' ss ds) (o2 : a.eval (.tmp 2) = .pointer (some ⟨p, 0, none⟩)) (_o1 : a.eval (.tmp 1) = .int .i64 (i : Int)) (_h0 : bathErr Wd ss ds = 0) (_haft : ∀ j, (o.after.any fun e => decide (e.on = j) && Region.binds .any e) = true → sizeS Wd A n c A' n' c' ds i j (a.eval (.tmp (17 + j))) W) : SizeOk Wd A n c A' n' c' ds i Q a W 5 o := by
  have hop := op_at ho (·.op) (x := .load 25 (.tmp 2)) (by kernel_rfl)
  have hgd := op_at ho (·.guard) (x := none) (by kernel_rfl)
  have hX := hx.ext hB
  obtain ⟨q0, q1, q2⟩ := hX.cells
  refine ⟨fun j b h => (by rw [hgd] at h; cases h), ?_⟩
  exact specs_value (R := sizeS Wd A n c A' n' c' ds i 5) (v := (.agg #[.int .i64 Wd, .slice A n c, .slice A' n' c'] : Value)) (by simp [execOp, hop, go_sem, ev o2, q0, q1, q2]) rfl (Ext.refl W)
theorem size_op6 (ho : sizeReg[6]? = some o) (hB : Ext V W) (hx : BathAt V p Wd A n c A' n' c' ss ds) (o2 : a.eval (.tmp 2) = .pointer (some ⟨p, 0, none⟩)) (_o1 : a.eval (.tmp 1) = .int .i64 (i : Int)) (_h0 : bathErr Wd ss ds = 0) (_haft : ∀ j, (o.after.any fun e => decide (e.on = j) && Region.binds .any e) = true → sizeS Wd A n c A' n' c' ds i j (a.eval (.tmp (17 + j))) W) : SizeOk Wd A n c A' n' c' ds i Q a W 6 o := by
  have hop := op_at ho (·.op) (x := .load 25 (.tmp 2)) (by kernel_rfl)
  have hgd := op_at ho (·.guard) (x := none) (by kernel_rfl)
  have hX := hx.ext hB
  obtain ⟨q0, q1, q2⟩ := hX.cells
  refine ⟨fun j b h => (by rw [hgd] at h; cases h), ?_⟩
  exact specs_value (R := sizeS Wd A n c A' n' c' ds i 6) (v := (.agg #[.int .i64 Wd, .slice A n c, .slice A' n' c'] : Value)) (by simp [execOp, hop, go_sem, ev o2, q0, q1, q2]) rfl (Ext.refl W)
theorem size_op7 (ho : sizeReg[7]? = some o) (hB : Ext V W) (hx : BathAt V p Wd A n c A' n' c' ss ds) (_o2 : a.eval (.tmp 2) = .pointer (some ⟨p, 0, none⟩)) (_o1 : a.eval (.tmp 1) = .int .i64 (i : Int)) (h0 : bathErr Wd ss ds = 0) (haft : ∀ j, (o.after.any fun e => decide (e.on = j) && Region.binds .any e) = true → sizeS Wd A n c A' n' c' ds i j (a.eval (.tmp (17 + j))) W) : SizeOk Wd A n c A' n' c' ds i Q a W 7 o := by
  have hop := op_at ho (·.op) (x := .call { callee := .value (.func 61), args := #[.tmp 23, .const (.bool true)], argTypes := #[25, 4] }) (by kernel_rfl)
  have hgd := op_at ho (·.guard) (x := none) (by kernel_rfl)
  have hX := hx.ext hB
  have e6 : a.eval (.tmp 23) = (.agg #[.int .i64 Wd, .slice A n c, .slice A' n' c'] : Value) := haft 6 (op_at ho (fun o => o.after.any fun e => decide (e.on = 6) && Region.binds .any e) (x := true) (by kernel_rfl))
  refine ⟨fun j b h => (by rw [hgd] at h; cases h), ?_⟩
  have hc := ends_ref (Wd := Wd) true hX.bath (by have := (bath_ok h0).2.1.2; have := hX.bath.nds; omega)
  exact specs_call (R := sizeS Wd A n c A' n' c' ds i 7) (f := 61) (args := #[(.agg #[.int .i64 Wd, .slice A n c, .slice A' n' c'] : Value), .bool true]) (by simp [execOp, hop, go_sem, ev e6]) (hc.mono fun e w' h => by
    obtain ⟨v, rfl, hM, hE⟩ := h
    exact ⟨v, rfl, made64_held hM, hE⟩)
theorem size_op8 (ho : sizeReg[8]? = some o) (hB : Ext V W) (hx : BathAt V p Wd A n c A' n' c' ss ds) (_o2 : a.eval (.tmp 2) = .pointer (some ⟨p, 0, none⟩)) (o1 : a.eval (.tmp 1) = .int .i64 (i : Int)) (_h0 : bathErr Wd ss ds = 0) (_haft : ∀ j, (o.after.any fun e => decide (e.on = j) && Region.binds .any e) = true → sizeS Wd A n c A' n' c' ds i j (a.eval (.tmp (17 + j))) W) : SizeOk Wd A n c A' n' c' ds i Q a W 8 o := by
  have hop := op_at ho (·.op) (x := .move (.tmp 1)) (by kernel_rfl)
  have hgd := op_at ho (·.guard) (x := none) (by kernel_rfl)
  have hX := hx.ext hB
  refine ⟨fun j b h => (by rw [hgd] at h; cases h), ?_⟩
  exact specs_value (R := sizeS Wd A n c A' n' c' ds i 8) (v := .int .i64 (i : Int)) (by simp [execOp, hop, go_sem, ev o1]) rfl (Ext.refl W)
theorem size_op9 (ho : sizeReg[9]? = some o) (hB : Ext V W) (hx : BathAt V p Wd A n c A' n' c' ss ds) (_o2 : a.eval (.tmp 2) = .pointer (some ⟨p, 0, none⟩)) (_o1 : a.eval (.tmp 1) = .int .i64 (i : Int)) (h0 : bathErr Wd ss ds = 0) (haft : ∀ j, (o.after.any fun e => decide (e.on = j) && Region.binds .any e) = true → sizeS Wd A n c A' n' c' ds i j (a.eval (.tmp (17 + j))) W) : SizeOk Wd A n c A' n' c' ds i Q a W 9 o := by
  have hop := op_at ho (·.op) (x := .call { callee := .value (.func 45), args := #[.tmp 22, .tmp 24, .tmp 25], argTypes := #[25, 55, 3] }) (by kernel_rfl)
  have hgd := op_at ho (·.guard) (x := none) (by kernel_rfl)
  have hX := hx.ext hB
  have e5 : a.eval (.tmp 22) = (.agg #[.int .i64 Wd, .slice A n c, .slice A' n' c'] : Value) := haft 5 (op_at ho (fun o => o.after.any fun e => decide (e.on = 5) && Region.binds .any e) (x := true) (by kernel_rfl))
  obtain ⟨T, cT, e7, hT⟩ := haft 7 (op_at ho (fun o => o.after.any fun e => decide (e.on = 7) && Region.binds .any e) (x := true) (by kernel_rfl))
  rw [show 17 + 7 = 24 from rfl] at e7
  have e8 : a.eval (.tmp 25) = .int .i64 (i : Int) := haft 8 (op_at ho (fun o => o.after.any fun e => decide (e.on = 8) && Region.binds .any e) (x := true) (by kernel_rfl))
  refine ⟨fun j b h => (by rw [hgd] at h; cases h), ?_⟩
  have hc := sizeOf_ref (Wd := Wd) T _ cT (ds.map (endOf true)) (i : Int) hX.bath (by have := (bath_ok h0).2.1.2; have := hX.bath.nds; omega) rfl (by rw [List.length_map, hX.bath.nds]; exact Nat.le_refl _) (by rw [List.length_map]; have := (bath_ok h0).2.1.2; omega) hT (ends_bd (bath_few h0) true)
  rw [hX.bath.nds, sumAt_ends] at hc
  exact specs_call (R := sizeS Wd A n c A' n' c' ds i 9) (f := 45) (args := #[(.agg #[.int .i64 Wd, .slice A n c, .slice A' n' c'] : Value), .slice T (ds.map (endOf true)).length cT, .int .i64 (i : Int)]) (by simp [execOp, hop, go_sem, ev e5, ev e7, ev e8]) (by rw [hX.bath.nds]; exact hc.mono fun e w' h => ⟨_, h.1, rfl, h.2⟩)
theorem size_op10 (ho : sizeReg[10]? = some o) (hB : Ext V W) (hx : BathAt V p Wd A n c A' n' c' ss ds) (_o2 : a.eval (.tmp 2) = .pointer (some ⟨p, 0, none⟩)) (_o1 : a.eval (.tmp 1) = .int .i64 (i : Int)) (_h0 : bathErr Wd ss ds = 0) (haft : ∀ j, (o.after.any fun e => decide (e.on = j) && Region.binds .any e) = true → sizeS Wd A n c A' n' c' ds i j (a.eval (.tmp (17 + j))) W) : SizeOk Wd A n c A' n' c' ds i Q a W 10 o := by
  have hop := op_at ho (·.op) (x := .build 29 #[(0, .tmp 21), (1, .tmp 26)]) (by kernel_rfl)
  have hgd := op_at ho (·.guard) (x := none) (by kernel_rfl)
  have hX := hx.ext hB
  have e4 : a.eval (.tmp 21) = .int .i64 (sizes ds i).1 := haft 4 (op_at ho (fun o => o.after.any fun e => decide (e.on = 4) && Region.binds .any e) (x := true) (by kernel_rfl))
  have e9 : a.eval (.tmp 26) = .int .i64 (sizes ds i).2 := haft 9 (op_at ho (fun o => o.after.any fun e => decide (e.on = 9) && Region.binds .any e) (x := true) (by kernel_rfl))
  refine ⟨fun j b h => (by rw [hgd] at h; cases h), ?_⟩
  exact specs_value (R := sizeS Wd A n c A' n' c' ds i 10) (v := .agg #[.int .i64 (sizes ds i).1, .int .i64 (sizes ds i).2]) (by simp [execOp, hop, go_sem, ev e4, ev e9]) rfl (Ext.refl W)
end
end Go.Proofs.Ytckndnaohggmhaa

/- The reference's Size. -/
namespace Go.Proofs.Ytckndnaohggmhaa
open Go.RowKit Go.Shelf

theorem drop_two {ops : Array Oper} {k : Nat} (h : ops.size = k + 2) : ∃ o o', ops.toList.drop k = [o, o'] ∧ ops[k]? = some o ∧ ops[k + 1]? = some o' := by
  have h1 : k < ops.size := by omega
  have h2 : k + 1 < ops.size := by omega
  refine ⟨ops[k], ops[k + 1], ?_, Array.getElem?_eq_getElem h1, Array.getElem?_eq_getElem h2⟩
  rw [List.drop_eq_getElem_cons (by simpa using h1), List.drop_eq_getElem_cons (by simpa using h2), List.drop_eq_nil_of_le (by simp; omega)]
  simp
theorem drop_one {ops : Array Oper} {k : Nat} (h : ops.size = k + 1) : ∃ o, ops.toList.drop k = [o] ∧ ops[k]? = some o := by
  have h1 : k < ops.size := by omega
  refine ⟨ops[k], ?_, Array.getElem?_eq_getElem h1⟩
  rw [List.drop_eq_getElem_cons (by simpa using h1), List.drop_eq_nil_of_le (by simp; omega)]
  simp
theorem wpList_value {P : Program} {ops : Array Oper} {Q : Exit → Act → World → Prop} {rest : List Oper} {o : Oper} {a : Act} {w w' : World} {v : Value} (hgd : o.guard = none) (hr : (execOp a.eval o).run P w = .ok (.value v) w')
    (h : wpList P ops Q rest (a.put o.dst v) w') : wpList P ops Q (o :: rest) a w := by
  simp only [wpList]
  rw [if_pos (by simp [Region.wanted, hgd])]
  left
  unfold Oper.wp
  rw [hr]
  exact h

section
variable {w : World} {Wd : Int} {A : Option Addr} {n c : Nat} {A' : Option Addr} {n' c' : Nat} {ss : List (Int × Int)} {ds : List (Int × Int × Int)}

set_option maxRecDepth 100000 in
set_option maxHeartbeats 2000000 in
theorem size_ref (x : Int) (hb : IsBath w w.heap.size A n c A' n' c' ss ds) :
    Calls Try.prog 18 #[.agg #[.int .i64 Wd, .slice A n c, .slice A' n' c'], .int .i64 x] w fun e w' => e = .returned (.tuple #[.agg #[.int .i64 (sizeAns Wd ss ds x).1.1, .int .i64 (sizeAns Wd ss ds x).1.2], .int .i64 (sizeAns Wd ss ds x).2]) ∧ Ext w w' := by
  have cB : ∀ W : World, IsBath W W.heap.size A n c A' n' c' ss ds → _ := fun W h => checkBath_ref (Wd := Wd) h
  have hX0 : BathAt ((w.alloc (.cells #[.int .i64 Wd, .slice A n c, .slice A' n' c'] 25)).alloc (.cells #[.int .i64 0, .int .i64 0] 29)) w.heap.size Wd A n c A' n' c' ss ds := (BathAt.new hb).ext (ext_alloc _ _)
  have hE0 : Ext w ((w.alloc (.cells #[.int .i64 Wd, .slice A n c, .slice A' n' c'] 25)).alloc (.cells #[.int .i64 0, .int .i64 0] 29)) := (ext_alloc w _).trans (ext_alloc _ _)
  have hR0 : ((w.alloc (.cells #[.int .i64 Wd, .slice A n c, .slice A' n' c'] 25)).alloc (.cells #[.int .i64 0, .int .i64 0] 29)).heap[w.heap.size + 1]? = some (.cells #[.int .i64 0, .int .i64 0] 29 (0, 0)) := row_last _ _ _ (by simp)
  by_cases he : bathErr Wd ss ds = 0
  · have hfew := bath_ok he
    rw [he] at cB
    by_cases hsp : 0 ≤ x ∧ x < (n : Int)
    · obtain ⟨i, rfl⟩ := Int.eq_ofNat_of_zero_le hsp.1
      have ha : sizeAns Wd ss ds (i : Int) = (sizes ds i, 0) := by
        unfold sizeAns
        rw [if_pos he, if_pos (by rw [← hb.nss]; simpa using hsp)]
        rfl
      rw [ha]
      clear ha
      have cS := fun W : World => isSpot_ref (Wd := Wd) (A := A) (n := n) (c := c) (A' := A') (n' := n') (c' := c') (i : Int) W
      rw [show (decide (0 ≤ (i : Int)) && decide ((i : Int) < (n : Int))) = true from by simpa using hsp] at cS
      go_enter Try.func18, Try.ntmps18
      go_wp2_with fail
      refine (cB _ hX0.bath).mono ?_
      rintro e w1 ⟨rfl, hb1⟩
      have hX1 := hX0.ext hb1
      have hE1 := hE0.trans hb1
      have hR1 := row_ext hR0 hb1
      clear hX0 hE0 hR0 hb1
      obtain ⟨q0, q1, q2⟩ := hX1.cells
      go_wp2_with fail
      refine (cS _).mono ?_
      rintro e w2 ⟨rfl, hb2⟩
      have hX2 := hX1.ext hb2
      have hE2 := Lib.hid (hE1.trans hb2)
      have hR2 := Lib.hid (row_ext hR1 hb2)
      have HE := Lib.hid he
      clear hX1 hE1 hR1 hb2 q0 q1 q2 cB cS he hsp hfew
      have HX := Lib.hid hX2
      clear hX2 hb
      go_upto_region 5 with fail
      refine wp_region_specs_tail (ops := sizeReg) 11 (sizeS Wd A n c A' n' c' ds i) (Ext w2) (by kernel_rfl) (by kernel_rfl) (by kernel_rfl) ⟨rfl, rfl, rfl, Nat.le_refl _, fun _ _ => rfl⟩ (fun _ _ h e => h.trans e) (sizeS_ext Wd A n c A' n' c' ds i) (fun j => 17 + j) (by kernel_rfl) ?_ ?_
      · intro k o hk ho a W hB hsz hold haft
        match k, hk with
        | 0, _ => exact size_op0 ho hB HX.out (hold 2 (by kernel_rfl)) (hold 1 (by kernel_rfl)) HE.out haft
        | 1, _ => exact size_op1 ho hB HX.out (hold 2 (by kernel_rfl)) (hold 1 (by kernel_rfl)) HE.out haft
        | 2, _ => exact size_op2 ho hB HX.out (hold 2 (by kernel_rfl)) (hold 1 (by kernel_rfl)) HE.out haft
        | 3, _ => exact size_op3 ho hB HX.out (hold 2 (by kernel_rfl)) (hold 1 (by kernel_rfl)) HE.out haft
        | 4, _ => exact size_op4 ho hB HX.out (hold 2 (by kernel_rfl)) (hold 1 (by kernel_rfl)) HE.out haft
        | 5, _ => exact size_op5 ho hB HX.out (hold 2 (by kernel_rfl)) (hold 1 (by kernel_rfl)) HE.out haft
        | 6, _ => exact size_op6 ho hB HX.out (hold 2 (by kernel_rfl)) (hold 1 (by kernel_rfl)) HE.out haft
        | 7, _ => exact size_op7 ho hB HX.out (hold 2 (by kernel_rfl)) (hold 1 (by kernel_rfl)) HE.out haft
        | 8, _ => exact size_op8 ho hB HX.out (hold 2 (by kernel_rfl)) (hold 1 (by kernel_rfl)) HE.out haft
        | 9, _ => exact size_op9 ho hB HX.out (hold 2 (by kernel_rfl)) (hold 1 (by kernel_rfl)) HE.out haft
        | 10, _ => exact size_op10 ho hB HX.out (hold 2 (by kernel_rfl)) (hold 1 (by kernel_rfl)) HE.out haft
        | m + 11, h => exact absurd h (by omega)
      · intro a W hB hsz hdf hold hS
        have e10 : a.eval (.tmp 27) = .agg #[.int .i64 (sizes ds i).1, .int .i64 (sizes ds i).2] := hS 10 (by omega)
        have e4 : a.eval (.tmp 4) = .pointer (some ⟨w.heap.size + 1, 0, none⟩) := (hold 4 (by kernel_rfl)).trans rfl
        have hsz' : a.tmps.size = 28 := hsz
        obtain ⟨o11, o12, hdr, h11, h12⟩ := drop_two (ops := sizeReg) (k := 11) (by kernel_rfl)
        rw [hdr]
        have hr := row_ext hR2.out hB
        refine wpList_store_row (op_at h11 (·.guard) (x := none) (by kernel_rfl)) 29 (.tmp 4) (.tmp 27) (op_at h11 (·.op) (by kernel_rfl)) (w.heap.size + 1) _ e4 e10 29 _ hr (by kernel_rfl) rfl (by simp [Value.oneCell']) ?_
        rw [show o11.dst = none from op_at h11 (·.dst) (by kernel_rfl)]
        refine wpList_value (v := .int .i64 0) (w' := W.setRow (w.heap.size + 1) #[.int .i64 (sizes ds i).1, .int .i64 (sizes ds i).2]) (op_at h12 (·.guard) (x := none) (by kernel_rfl)) (by simp [execOp, show o12.op = .assign (.const (.int .i64 0)) from op_at h12 (·.op) (by kernel_rfl), go_sem]) ?_
        rw [show o12.dst = some 5 from op_at h12 (·.dst) (by kernel_rfl)]
        obtain ⟨tmps, dfs⟩ := a
        obtain rfl : dfs = [] := hdf
        simp only [wpList, Exit.then]
        go_at_K
        go_wp2
        have hp : tmps.getD 4 undef = .pointer (some ⟨w.heap.size + 1, 0, none⟩) := e4
        have h5 : 5 < tmps.size := by rw [show tmps.size = 28 from hsz']; omega
        refine bodyPost_ret (v := .tuple #[.agg #[.int .i64 (sizes ds i).1, .int .i64 (sizes ds i).2], .int .i64 0]) (results_rng_tmp rfl _ _ (w.heap.size + 1) _ _ _ ?_ ?_ (row_setRow _ _ _ _ _ _ hr)) rfl ⟨rfl, below_setRow (hE2.out.trans hB) (by omega) _⟩
        · simpa [Act.put] using hp
        · simp [h5]
    · have ha : sizeAns Wd ss ds x = ((0, 0), 2) := by
        unfold sizeAns
        rw [if_pos he, if_neg (by rw [← hb.nss]; simpa using hsp)]
      rw [ha]
      clear ha
      have cS := fun W : World => isSpot_ref (Wd := Wd) (A := A) (n := n) (c := c) (A' := A') (n' := n') (c' := c') x W
      rw [show (decide (0 ≤ x) && decide (x < (n : Int))) = false from by simp; omega] at cS
      go_enter Try.func18, Try.ntmps18
      go_wp2_with fail
      refine (cB _ hX0.bath).mono ?_
      rintro e w1 ⟨rfl, hb1⟩
      have hX1 := hX0.ext hb1
      have hE1 := hE0.trans hb1
      have hR1 := row_ext hR0 hb1
      clear hX0 hE0 hR0 hb1
      obtain ⟨q0, q1, q2⟩ := hX1.cells
      go_wp2_with fail
      refine (cS _).mono ?_
      rintro e w2 ⟨rfl, hb2⟩
      have hE2 := hE1.trans hb2
      have hR2 := Lib.hid (row_ext hR1 hb2)
      clear hX1 hE1 hR1 hb2 q0 q1 q2 cB cS
      go_wp2_with (refine wpList_store29 (.tmp 4) (.tmp 16) rfl rfl (w.heap.size + 1) rfl 0 0 0 0 rfl hR2.out ?_)
      refine bodyPost_ret (v := .tuple #[.agg #[.int .i64 0, .int .i64 0], .int .i64 2]) (results_rng_tmp rfl _ _ (w.heap.size + 1) 0 0 _ rfl rfl (row_setRow _ _ _ _ _ _ hR2.out)) rfl ⟨rfl, below_setRow hE2 (by omega) _⟩
  · have ha : sizeAns Wd ss ds x = ((0, 0), bathErr Wd ss ds) := by unfold sizeAns; rw [if_neg he]
    rw [ha]
    clear ha
    generalize bathErr Wd ss ds = r at he cB ⊢
    have hne2 : (r != 0) = true := by simpa using he
    go_enter Try.func18, Try.ntmps18
    go_wp2_with fail
    refine (cB _ hX0.bath).mono ?_
    rintro e w1 ⟨rfl, hb1⟩
    have hX1 := hX0.ext hb1
    have hE1 := hE0.trans hb1
    have hR1 := row_ext hR0 hb1
    clear hX0 hE0 hR0 hb1
    obtain ⟨q0, q1, q2⟩ := hX1.cells
    go_wp2_with fail
    refine (cB _ hX1.bath).mono ?_
    rintro e w2 ⟨rfl, hb2⟩
    have hE2 := hE1.trans hb2
    have hR2 := Lib.hid (row_ext hR1 hb2)
    clear hX1 hE1 hR1 hb2 q0 q1 q2 cB
    go_wp2_with (refine wpList_store29 (.tmp 4) (.tmp 9) rfl rfl (w.heap.size + 1) rfl 0 0 0 0 rfl hR2.out ?_)
    refine bodyPost_ret (v := .tuple #[.agg #[.int .i64 0, .int .i64 0], .int .i64 r]) (results_rng_tmp rfl _ _ (w.heap.size + 1) 0 0 _ rfl rfl (row_setRow _ _ _ _ _ _ hR2.out)) rfl ⟨rfl, below_setRow hE2 (by omega) _⟩
end
end Go.Proofs.Ytckndnaohggmhaa
