/- Texts of one package, joined: Best, RefLost, RefHas, CheckReg, RefCheck, SheetLaw. -/
import Derived.Test.YtlaakmgdbhabfaaC11
import Derived.Test.YtlaakmgdbhabfaaC22
import Derived.Test.YtlaakmgdbhabfaaC23
import Derived.Shelf.SlSortCmp.NoneTotal
/- Best. -/
namespace Go.Proofs.Ytlaakmgdbhabfaa
open Go.RowKit Go.Shelf Go.Sort
attribute [local irreducible] bitCells fitCells Z94 fitOf

/-- Rows in their order. -/
def sortRw (r : List Rw) : List Rw := r.mergeSort fun x y => !decide (cmpRw y x < 0)
theorem flat_len (r : List Rw) : (r.flatMap encRw).length = r.length * 2 := by
  induction r with
  | nil => rfl
  | cons x r ih => rw [List.flatMap_cons, List.length_append, ih, List.length_cons]; simp [encRw]; omega
theorem flat_at : ∀ (r : List Rw) (j : Nat), (r.flatMap encRw)[j]? = (r[j / 2]?).bind fun x => (encRw x)[j % 2]?
  | [], j => by simp
  | x :: r, 0 => by simp [encRw]
  | x :: r, 1 => by simp [encRw]
  | x :: r, j + 2 => by
    rw [List.flatMap_cons, show (j + 2) / 2 = j / 2 + 1 from by omega, show (j + 2) % 2 = j % 2 from by omega, List.getElem?_cons_succ, ← flat_at r j]
    simp [encRw]
theorem cell_src {W : World} {o : Option (List Rw)} {v : Value} (h : CellIs W o v) : ∃ sp c9, v = .slice sp (o.getD []).length c9 ∧ ((o.getD []).length = 0 ∨ ∃ ad, sp = some ad ∧ ad.block < W.heap.size ∧ ∀ j u, ((o.getD []).flatMap encRw)[j]? = some u → W.cell? (ad.add j) = some u) := by
  cases o with
  | none => exact ⟨_, _, h, .inl rfl⟩
  | some r =>
    obtain ⟨b, off, c, cells, rfl, _, _, hrow, hc⟩ := h
    refine ⟨_, _, rfl, .inr ⟨_, rfl, (Array.getElem?_eq_some_iff.1 hrow).1, fun j u hu => ?_⟩⟩
    simp only [Option.getD_some] at hu
    rw [flat_at] at hu
    obtain ⟨x, hx, hu⟩ := Option.bind_eq_some_iff.1 hu
    obtain ⟨h1, h2⟩ := hc _ x hx
    rw [Addr.add_lit]
    refine (cell_of_row _ _ _ _ _ _ hrow).trans ?_
    rcases Nat.mod_two_eq_zero_or_one j with h | h
    · rw [h] at hu
      rw [show off + j = off + j / 2 * 2 from by omega, h1]
      simpa [encRw] using hu
    · rw [h] at hu
      rw [show off + j = off + j / 2 * 2 + 1 from by omega, h2]
      simpa [encRw] using hu
set_option maxRecDepth 100000 in
theorem sort_any {w : World} {g : Nat} {cs : Array Value} (r : List Rw) (hr : r.length ≤ 4096) (hg : w.heap[g]? = some (.cells cs 27 (0, 0))) (hcs : cs.toList = r.flatMap encRw) :
    Calls Try.prog 76 #[.slice (some ⟨g, 0, none⟩) r.length r.length, .func (.func 77) #[] #[]] w fun e w' => e = .returned (.tuple #[]) ∧ Below g w w' ∧ w'.heap[g]? = some (.cells ((sortRw r).flatMap encRw).toArray 27 (0, 0)) := by
  have hflat : (flatK encRw 2 r.toArray).toList = r.flatMap encRw := flat_list r.toArray
  have hce : cs = flatK encRw 2 r.toArray := Array.ext' (hcs.trans hflat.symm)
  have hlt := (Array.getElem?_eq_some_iff.1 hg).1
  have hH : HoldsK encRw 2 w g 0 r.toArray := fun j hj => by
    refine ⟨(cell_of_row _ _ _ _ _ _ hg).trans ?_, by simp [World.frozen?, hg]⟩
    rw [hce, Nat.zero_add, getElem!_pos _ j hj, Array.getElem?_eq_getElem hj]
    rfl
  have h := AnyQ.slices_SortFunc_total sortRow 2 Try.isAgg27 Try.sizeOf27 encRw (fun _ => rfl) (fun x v hv => by simp [encRw] at hv; rcases hv with rfl | rfl <;> rfl) cmpRw swoRw 77 #[] g 0 r.length r.toArray w e77 (lays77 g _ w) hH hlt (by simp; omega) totRw
  change Calls Try.prog 76 _ _ _ at h
  rw [show r.toArray.size = r.length from by simp] at h
  refine h.mono ?_
  rintro e w' ⟨rfl, m, os, rfl⟩
  have hsz : cs.size = ((r.toArray.toList.mergeSort fun x y => !ltOf cmpRw y x).toArray).size * 2 := by
    rw [hce]
    simp
  obtain ⟨h1, h2⟩ := sorted_row hg _ hsz m os
  refine ⟨rfl, h2, ?_⟩
  rw [h1]
  congr 2
  apply Array.ext'
  rw [flat_list]
  rfl

/-- The best rows, sorted, and the error. -/
def bestRows (cs ms : List (Int × Int)) : List Rw := sortRw ((tabOf cs ms (allNos cs ms) (2 ^ ms.length - 1)).getD [])

set_option maxRecDepth 100000 in
set_option maxHeartbeats 2000000 in
theorem best_any {A : Option Addr} {n c : Nat} {A' : Option Addr} {n' c' : Nat} {cs ms : List (Int × Int)} {w : World} (hb : IsSheet w w.heap.size A n c A' n' c' cs ms) :
    Calls Try.prog 40 #[.agg #[.slice A n c, .slice A' n' c']] w fun e w' => Ext w w' ∧ ((wholeErr cs ms ≠ 0 ∧ e = .returned (.tuple #[.slice none 0 0, .int .i64 (wholeErr cs ms)])) ∨
      (wholeErr cs ms = 0 ∧ ∃ g, e = .returned (.tuple #[.slice (some ⟨g, 0, none⟩) (bestRows cs ms).length (bestRows cs ms).length, .int .i64 0]) ∧ w.heap.size ≤ g ∧ w'.heap[g]? = some (.cells ((bestRows cs ms).flatMap encRw).toArray 27 (0, 0)))) := by
  have e0 : Ext w (w.alloc (.cells #[.slice A n c, .slice A' n' c'] 25)) := ext_alloc _ _
  have hop := openedWhole_any (hb.ext e0)
  have hnm := hb.nms
  have HE := Lib.hid e0
  have HN := Lib.hid hnm
  clear hb e0 hnm
  go_enter Try.func40, Try.ntmps40
  go_wp2_with fail
  refine hop.mono ?_
  rintro e w1 ⟨e1, ⟨h0, rfl⟩ | ⟨hw0, h0, b, A2, k, c2, rfl, hO⟩⟩
  · have HE1 := Lib.hid (HE.out.trans e1)
    have H0 := Lib.hid h0
    obtain ⟨r, hr⟩ : ∃ r, wholeErr cs ms = r := ⟨_, rfl⟩
    have HR := Lib.hid hr
    rw [hr] at h0
    rw [hr]
    have hne : (r == 0) = false := by simpa using h0
    have hne2 : (r != 0) = true := by simpa using h0
    clear e1 hop hr h0
    go_wp2
    go_ret2
    refine ⟨HE1.out, .inl ⟨H0.out, ?_⟩⟩
    rw [HR.out]
    rfl
  · have HE1 := Lib.hid (HE.out.trans e1)
    have hch := choosing_any hO h0
    have HO1 := Lib.hid hO
    have H0 := Lib.hid (And.intro hw0 h0)
    clear e1 hop hO h0 hw0
    go_wp2_with fail
    refine hch.mono ?_
    rintro e w2 ⟨e2, pc, bm, rfl, hpc, hbm, hrow, hal⟩
    have hC : ChoiceAt w2 pc b bm (allNos cs ms) := ⟨hrow, hal⟩
    have HO2 := Lib.hid (HO1.out.ext e2)
    have HE2 := Lib.hid (HE1.out.trans e2)
    have hfw := fewest_any hC HO2.out H0.out.2
    clear e2 hpc hbm hrow hal hC hch HO1 HE1
    go_wp2_with fail
    refine hfw.mono ?_
    rintro e w3 ⟨e3, g, rfl, hg, hTab⟩
    have hn12 : n' ≤ 12 := by have := (sheet_ok H0.out.2).1; have := HN.out; omega
    have hT4 : 2 ^ n' ≤ 4096 := (Nat.pow_le_pow_right (by decide) hn12 : 2 ^ n' ≤ 2 ^ 12)
    have hT1 : 1 ≤ 2 ^ n' := Nat.one_le_two_pow
    obtain ⟨va, ca, hva⟩ := hTab.get (s := 2 ^ n' - 1) (by omega)
    have hop2 : (tabTo (noOf cs ms) (leftOf cs ms (allNos cs ms) (fitsOf cs ms)) (2 ^ n')).getD (2 ^ n' - 1) none = tabOf cs ms (allNos cs ms) (2 ^ ms.length - 1) := by unfold tabOf; rw [HN.out]
    rw [hop2] at hva
    have hle : lenOf (tabOf cs ms (allNos cs ms) (2 ^ ms.length - 1)) ≤ 2 ^ n' - 1 := by rw [← HN.out]; exact tabOf_le
    obtain ⟨r, hr⟩ : ∃ r, (tabOf cs ms (allNos cs ms) (2 ^ ms.length - 1)).getD [] = r := ⟨_, rfl⟩
    have hbr : bestRows cs ms = sortRw r := by unfold bestRows; rw [hr]
    have hlr : r.length = lenOf (tabOf cs ms (allNos cs ms) (2 ^ ms.length - 1)) := by rw [← hr]; cases tabOf cs ms (allNos cs ms) (2 ^ ms.length - 1) <;> rfl
    have hr4 : r.length ≤ 4096 := by omega
    have hsrc := cell_src hva
    rw [hr] at hsrc
    obtain ⟨sp, c9, rfl, hsrc⟩ := hsrc
    have HE3 := Lib.hid (HE2.out.trans e3)
    have HBR := Lib.hid hbr
    obtain ⟨T, hT⟩ : ∃ T, 2 ^ n' = T := ⟨_, rfl⟩
    rw [hT] at ca hT4 hT1 ⊢
    obtain ⟨U, rfl⟩ : ∃ U, T = U + 1 := ⟨T - 1, by omega⟩
    rw [Nat.add_sub_cancel] at ca
    have hmk := fun W => run_make54 r.length hr4 W
    have hfl := flat_len r
    have hone : ∀ v ∈ r.flatMap encRw, v.oneCell' = true := by
      intro v hv
      obtain ⟨x, _, hx⟩ := List.mem_flatMap.1 hv
      simp [encRw] at hx
      rcases hx with rfl | rfl <;> rfl
    have hmr := row_last w3 (.cells (madeCells #[.int .i64 0, .int .i64 0] (r.length * 2)) 27) w3.heap.size rfl
    have e4 : Ext w3 (w3.alloc (.cells (madeCells #[.int .i64 0, .int .i64 0] (r.length * 2)) 27)) := ext_alloc _ _
    have hsrc4 : r.length = 0 ∨ ∃ ad, sp = some ad ∧ ∀ j v, (r.flatMap encRw)[j]? = some v → (w3.alloc (.cells (madeCells #[.int .i64 0, .int .i64 0] (r.length * 2)) 27)).cell? (ad.add j) = some v := by
      rcases hsrc with h | ⟨ad, h1, h2, h3⟩
      · exact .inl h
      · exact .inr ⟨ad, h1, fun j v hv => by
          rw [e4.cell (p := ad.add j) (by cases ad with | mk b1 o1 i1 => unfold Addr.add; split <;> exact h2)]
          exact h3 j v hv⟩
    have hsz := size_madeCells #[Value.int .i64 0, Value.int .i64 0] (r.length * 2)
    clear hfw e3 hTab hop2 hle hva hT HO2 hg HE2 hr hbr hsrc hlr
    obtain ⟨w5, hw5⟩ : ∃ w5, (w3.alloc (.cells (madeCells #[.int .i64 0, .int .i64 0] (r.length * 2)) 27)).setRow w3.heap.size (r.flatMap encRw).toArray = w5 := ⟨_, rfl⟩
    have hg5 : w5.heap[w3.heap.size]? = some (.cells (r.flatMap encRw).toArray 27 (0, 0)) := by rw [← hw5]; exact row_setRow _ _ _ _ _ _ hmr
    have e5 : Ext w3 w5 := by rw [← hw5]; exact below_setRow e4 (Nat.le_refl _) _
    have hso := sort_any r hr4 hg5 (by simp)
    have HE5 := Lib.hid (HE3.out.trans e5)
    have h35 : w.heap.size ≤ w3.heap.size := HE3.out.size
    have HW5 := Lib.hid hw5
    clear hg5 e5 e4
    obtain ⟨cur, hcur⟩ : ∃ cur, madeCells #[Value.int .i64 0, Value.int .i64 0] (r.length * 2) = cur := ⟨_, rfl⟩
    rw [hcur] at hmr hsz hsrc4 HW5 hw5
    simp only [hcur] at hmk
    clear hcur
    go_wp2_with (first | (refine wpList_copy54 rfl (.tmp 29) (.tmp 30) rfl w3.heap.size r.length r.length c9 sp rfl rfl cur hmr hsz (r.flatMap encRw) hfl hsrc4 hone ?_; rw [hw5]) | (refine hso.mono ?_))
    rintro e w6 ⟨rfl, hb6, hg6⟩
    have e6 : Ext w w6 := Below.trans HE5.out (hb6.mono h35)
    have HE6 := Lib.hid e6
    have HG6 := Lib.hid hg6
    have hls : (sortRw r).length = r.length := by unfold sortRw; rw [List.length_mergeSort]
    have HLS := Lib.hid hls
    clear e6 hb6 hg6 hls hso hmk hmr hsz hsrc4 hone hfl HW5
    go_wp2
    go_ret2
    refine ⟨HE6.out, .inr ⟨H0.out.1, w3.heap.size, ?_, h35, ?_⟩⟩
    · rw [HBR.out, HLS.out]
      rfl
    · rw [HBR.out]
      exact HG6.out
end Go.Proofs.Ytlaakmgdbhabfaa

/- lost and Lost of the reference. -/
namespace Go.Proofs.Ytlaakmgdbhabfaa
open Go.RowKit Go.Shelf
attribute [local irreducible] bitCells fitCells Z94 fitOf

theorem fits_mem {cs ms : List (Int × Int)} (h0 : sheetErr cs ms = 0) {x : Rw} (hx : x ∈ fitsOf cs ms) : x.1 < cs.length ∧ (0 ≤ x.2 ∧ x.2 ≤ 500) ∧ bitsOf cs ms x.1 x.2 = noOf cs ms x ∧ noOf cs ms x ≠ 0 := by
  unfold fitsOf fitsUpto at hx
  obtain ⟨k, hk, hx⟩ := List.mem_flatMap.1 hx
  have hk := List.mem_range.1 hk
  have h12 := (sheet_ok h0).1.2.2
  rw [rows_pairs h0 hk] at hx
  obtain ⟨y, hy, rfl⟩ := List.mem_map.1 hx
  obtain ⟨i, hi, hp, rfl⟩ := (mem_nums _ _ _).1 hy
  have hr : 0 ≤ ((i : Nat) : Int) ∧ ((i : Nat) : Int) ≤ 500 := by omega
  unfold fitB at hp
  rw [decide_eq_true_eq] at hp
  have hb := bits_no (cs := cs) (k := k) h12 hr
  exact ⟨hk, hr, hb, by rw [← hb]; exact hp⟩
/-- The marks that some rows have, by bits. -/
def orNos (cs ms : List (Int × Int)) (l : List Rw) : Nat := l.foldl (fun a x => a ||| noOf cs ms x) 0
theorem or_snoc (cs ms : List (Int × Int)) (l : List Rw) (x : Rw) : orNos cs ms (l ++ [x]) = orNos cs ms l ||| noOf cs ms x := by simp [orNos]
theorem or_lt (cs ms : List (Int × Int)) (l : List Rw) : orNos cs ms l < 2 ^ ms.length := by
  have : ∀ (l : List Rw) (a : Nat), a < 2 ^ ms.length → l.foldl (fun a x => a ||| noOf cs ms x) a < 2 ^ ms.length := by
    intro l
    induction l with
    | nil => intro a h; exact h
    | cons x l ih => intro a h; exact ih _ (Nat.or_lt_two_pow h (noOf_lt cs ms x))
  exact this l 0 (Nat.two_pow_pos _)
theorem or_bit (cs ms : List (Int × Int)) (l : List Rw) (i : Nat) : (orNos cs ms l).testBit i = l.any fun x => (noOf cs ms x).testBit i := by
  have : ∀ (l : List Rw) (a : Nat), (l.foldl (fun a x => a ||| noOf cs ms x) a).testBit i = (a.testBit i || l.any fun x => (noOf cs ms x).testBit i) := by
    intro l
    induction l with
    | nil => intro a; simp
    | cons x l ih => intro a; rw [List.foldl_cons, ih, Nat.testBit_or, List.any_cons, Bool.or_assoc]
  rw [show orNos cs ms l = l.foldl (fun a x => a ||| noOf cs ms x) 0 from rfl, this]
  simp
end Go.Proofs.Ytlaakmgdbhabfaa

/- Has of the reference. -/
namespace Go.Proofs.Ytlaakmgdbhabfaa
open Go.RowKit Go.Shelf
attribute [local irreducible] bitCells fitCells Z94 fitOf

theorem fits_has {cs ms : List (Int × Int)} (h0 : sheetErr cs ms = 0) {k : Nat} {x : Int} (hk : k < cs.length) (hb : bitsOf cs ms k x ≠ 0) : (k, x) ∈ fitsOf cs ms := by
  unfold fitsOf fitsUpto
  refine List.mem_flatMap.2 ⟨k, List.mem_range.2 hk, ?_⟩
  rw [rows_pairs h0 hk]
  have h := (fit_iff (sheet_ok h0).1.2.2 k x).1 hb
  refine List.mem_map.2 ⟨x, (mem_nums _ _ _).2 ⟨x.toNat, by omega, ?_, by omega⟩, rfl⟩
  unfold fitB
  rw [decide_eq_true_eq, show ((x.toNat : Nat) : Int) = x from by omega]
  exact hb
theorem isRow_iff (y1 y2 : Int) (x : Nat × Int) : isRow (y1, y2) x = true ↔ (x.1 : Int) = y1 ∧ x.2 = y2 := by
  unfold isRow
  simp
theorem fitFor_eq {cs ms : List (Int × Int)} (h0 : sheetErr cs ms = 0) {k : Nat} (hk : k < cs.length) (x : Int) : fitFor cs ms ((k : Int), x) = if bitsOf cs ms k x = 0 then none else some (k, x) := by
  unfold fitFor
  by_cases hb : bitsOf cs ms k x = 0
  · rw [if_pos hb, List.getElem?_eq_none]
    refine Nat.le_of_not_lt fun hlt => ?_
    have h1 := List.findIdx_getElem (xs := fitsOf cs ms) (p := isRow ((k : Int), x)) (w := hlt)
    obtain ⟨m1, m2, m3, m4⟩ := fits_mem h0 (List.getElem_mem hlt)
    obtain ⟨e1, e2⟩ := (isRow_iff _ _ _).1 h1
    rw [← m3, e2] at m4
    have e1' : ((fitsOf cs ms)[List.findIdx (isRow ((k : Int), x)) (fitsOf cs ms)]'hlt).1 = k := by omega
    rw [e1'] at m4
    exact m4 hb
  · rw [if_neg hb]
    have hm := fits_has h0 hk hb
    have hlt : (fitsOf cs ms).findIdx (isRow ((k : Int), x)) < (fitsOf cs ms).length := List.findIdx_lt_length_of_exists ⟨_, hm, by unfold isRow; simp⟩
    rw [List.getElem?_eq_getElem hlt]
    have h1 := List.findIdx_getElem (xs := fitsOf cs ms) (p := isRow ((k : Int), x)) (w := hlt)
    obtain ⟨e1, e2⟩ := (isRow_iff _ _ _).1 h1
    congr 1
    exact Prod.ext (by omega) e2
end Go.Proofs.Ytlaakmgdbhabfaa

/- CheckRows of the reference: its regions. -/
namespace Go.Proofs.Ytlaakmgdbhabfaa
open Go.RowKit Go.Shelf

/-- The slots of region 8 of function 42. -/
def cr8D (i : Nat) : Tmp := if i = 0 then 24 else if i = 1 then 25 else if i = 2 then 26 else if i = 3 then 27 else if i = 4 then 28 else if i = 5 then 29 else if i = 6 then 30 else 31
/-- What each operation yields. -/
def cr8S (_p : Nat) (A : Option Addr) (n c : Nat) (A' : Option Addr) (n' c' g of ln cl jj : Nat) (y1 : Int) (bo : Bool) (ix : Nat) (v : Value) (_W : World) : Prop :=
  match ix with
  | 0 => v = .agg #[.slice A n c, .slice A' n' c']
  | 1 => v = .slice (some ⟨g, of, none⟩) ln cl
  | 2 => v = .int .i64 (jj : Int)
  | 3 => v = .pointer (some ⟨g, of + jj * 2, none⟩)
  | 4 => v = .pointer (some ⟨g, of + jj * 2, none⟩)
  | 5 => v = .int .i64 y1
  | 6 => v = .bool bo
  | 7 => v = .bool (!bo)
  | _ => True
noncomputable def cr8Reg : Array Oper := (Try.f42.body.bind (regionOf · 8)).getD #[]
theorem cr8S_ext {p : Nat} {A : Option Addr} {n c : Nat} {A' : Option Addr} {n' c' g of ln cl jj : Nat} {y1 : Int} {bo : Bool} : ∀ (i : Nat) (v : Value) (W W' : World), cr8S p A n c A' n' c' g of ln cl jj y1 bo i v W → Below W.heap.size W W' → cr8S p A n c A' n' c' g of ln cl jj y1 bo i v W' := by
  intro i v W W' h e
  match i with
  | 0 => exact h
  | 1 => exact h
  | 2 => exact h
  | 3 => exact h
  | 4 => exact h
  | 5 => exact h
  | 6 => exact h
  | 7 => exact h
  | k + 8 => exact trivial
def cr8Ok (p : Nat) (A : Option Addr) (n c : Nat) (A' : Option Addr) (n' c' g of ln cl jj : Nat) (y1 : Int) (bo : Bool) (Q : Exit → Act → World → Prop) (a : Act) (W : World) (ix : Nat) (o : Oper) : Prop :=
  (∀ j b, o.guard = some (j, b) → a.eval (.tmp (cr8D j)) = .bool b) ∧ o.wp Try.prog a W (fun a'' W' => ∃ v, a'' = a.put o.dst v ∧ cr8S p A n c A' n' c' g of ln cl jj y1 bo ix v W' ∧ Below W.heap.size W W') Q
section
variable {p : Nat} {A : Option Addr} {n c : Nat} {A' : Option Addr} {n' c' g of ln cl jj : Nat} {y1 : Int} {bo : Bool} {Q : Exit → Act → World → Prop} {a : Act} {V W : World} {o : Oper}
set_option maxHeartbeats 1000000 in
theorem cr8_op0 (o2 : a.eval (.tmp 2) = .pointer (some ⟨p, 0, none⟩)) (q0 : ∀ W, Ext V W → W.cell? ⟨p, 0, none⟩ = some (.slice A n c)) (q1 : ∀ W, Ext V W → W.cell? ⟨p, 1, none⟩ = some (.slice A' n' c')) (hB : Ext V W) (ho : cr8Reg[0]? = some o) : cr8Ok p A n c A' n' c' g of ln cl jj y1 bo Q a W 0 o := by
  have hop := op_at ho (·.op) (x := Op.load 25 (Operand.tmp 2)) (by kernel_rfl)
  have hgd := op_at ho (·.guard) (x := none) (by kernel_rfl)
  refine ⟨fun j b h => (by rw [hgd] at h; cases h), ?_⟩
  have q0' := q0 W hB
  have q1' := q1 W hB
  exact specs_value (R := fun v W => cr8S p A n c A' n' c' g of ln cl jj y1 bo 0 v W) (v := .agg #[.slice A n c, .slice A' n' c']) (by simp [execOp, hop, go_sem, ev o2, q0', q1']) rfl (Ext.refl W)
set_option maxHeartbeats 1000000 in
theorem cr8_op1 (o1 : a.eval (.tmp 1) = .slice (some ⟨g, of, none⟩) ln cl) (ho : cr8Reg[1]? = some o) : cr8Ok p A n c A' n' c' g of ln cl jj y1 bo Q a W 1 o := by
  have hop := op_at ho (·.op) (x := Op.move (Operand.tmp 1)) (by kernel_rfl)
  have hgd := op_at ho (·.guard) (x := none) (by kernel_rfl)
  refine ⟨fun j b h => (by rw [hgd] at h; cases h), ?_⟩
  exact specs_value (R := fun v W => cr8S p A n c A' n' c' g of ln cl jj y1 bo 1 v W) (v := .slice (some ⟨g, of, none⟩) ln cl) (by simp [execOp, hop, go_sem, ev o1]) rfl (Ext.refl W)
set_option maxHeartbeats 1000000 in
theorem cr8_op2 (o5 : a.eval (.tmp 5) = .int .i64 (jj : Int)) (ho : cr8Reg[2]? = some o) : cr8Ok p A n c A' n' c' g of ln cl jj y1 bo Q a W 2 o := by
  have hop := op_at ho (·.op) (x := Op.move (Operand.tmp 5)) (by kernel_rfl)
  have hgd := op_at ho (·.guard) (x := none) (by kernel_rfl)
  refine ⟨fun j b h => (by rw [hgd] at h; cases h), ?_⟩
  exact specs_value (R := fun v W => cr8S p A n c A' n' c' g of ln cl jj y1 bo 2 v W) (v := .int .i64 (jj : Int)) (by simp [execOp, hop, go_sem, ev o5]) rfl (Ext.refl W)
set_option maxHeartbeats 1000000 in
theorem cr8_op3 (hj : jj < ln) (haft : ∀ j, (o.after.any fun e => decide (e.on = j) && Region.binds .any e) = true → cr8S p A n c A' n' c' g of ln cl jj y1 bo j (a.eval (.tmp (cr8D j))) W) (ho : cr8Reg[3]? = some o) : cr8Ok p A n c A' n' c' g of ln cl jj y1 bo Q a W 3 o := by
  have hop := op_at ho (·.op) (x := Op.indexAddr 54 (Operand.tmp 25) (Operand.tmp 26)) (by kernel_rfl)
  have hgd := op_at ho (·.guard) (x := none) (by kernel_rfl)
  have e1 : a.eval (.tmp 25) = .slice (some ⟨g, of, none⟩) ln cl := haft 1 (op_at ho (fun o => o.after.any fun e => decide (e.on = 1) && Region.binds .any e) (x := true) (by kernel_rfl))
  have e2 : a.eval (.tmp 26) = .int .i64 (jj : Int) := haft 2 (op_at ho (fun o => o.after.any fun e => decide (e.on = 2) && Region.binds .any e) (x := true) (by kernel_rfl))
  refine ⟨fun j b h => (by rw [hgd] at h; cases h), ?_⟩
  have hjz : (jj : Int) < (ln : Int) := by omega
  exact specs_value (R := fun v W => cr8S p A n c A' n' c' g of ln cl jj y1 bo 3 v W) (v := .pointer (some ⟨g, of + jj * 2, none⟩)) (by simp [execOp, hop, go_sem, ev e1, ev e2, hjz]) rfl (Ext.refl W)
set_option maxHeartbeats 1000000 in
theorem cr8_op4 (haft : ∀ j, (o.after.any fun e => decide (e.on = j) && Region.binds .any e) = true → cr8S p A n c A' n' c' g of ln cl jj y1 bo j (a.eval (.tmp (cr8D j))) W) (ho : cr8Reg[4]? = some o) : cr8Ok p A n c A' n' c' g of ln cl jj y1 bo Q a W 4 o := by
  have hop := op_at ho (·.op) (x := Op.fieldAddr 27 (Operand.tmp 27) 0) (by kernel_rfl)
  have hgd := op_at ho (·.guard) (x := none) (by kernel_rfl)
  have e3 : a.eval (.tmp 27) = .pointer (some ⟨g, of + jj * 2, none⟩) := haft 3 (op_at ho (fun o => o.after.any fun e => decide (e.on = 3) && Region.binds .any e) (x := true) (by kernel_rfl))
  refine ⟨fun j b h => (by rw [hgd] at h; cases h), ?_⟩
  exact specs_value (R := fun v W => cr8S p A n c A' n' c' g of ln cl jj y1 bo 4 v W) (v := .pointer (some ⟨g, of + jj * 2, none⟩)) (by simp [execOp, hop, go_sem, ev e3]) rfl (Ext.refl W)
set_option maxHeartbeats 1000000 in
theorem cr8_op5 (c0 : ∀ W, Ext V W → W.cell? ⟨g, of + jj * 2, none⟩ = some (.int .i64 y1)) (hB : Ext V W) (haft : ∀ j, (o.after.any fun e => decide (e.on = j) && Region.binds .any e) = true → cr8S p A n c A' n' c' g of ln cl jj y1 bo j (a.eval (.tmp (cr8D j))) W) (ho : cr8Reg[5]? = some o) : cr8Ok p A n c A' n' c' g of ln cl jj y1 bo Q a W 5 o := by
  have hop := op_at ho (·.op) (x := Op.load 3 (Operand.tmp 28)) (by kernel_rfl)
  have hgd := op_at ho (·.guard) (x := none) (by kernel_rfl)
  have e4 : a.eval (.tmp 28) = .pointer (some ⟨g, of + jj * 2, none⟩) := haft 4 (op_at ho (fun o => o.after.any fun e => decide (e.on = 4) && Region.binds .any e) (x := true) (by kernel_rfl))
  refine ⟨fun j b h => (by rw [hgd] at h; cases h), ?_⟩
  have c0' := c0 W hB
  exact specs_value (R := fun v W => cr8S p A n c A' n' c' g of ln cl jj y1 bo 5 v W) (v := .int .i64 y1) (by simp [execOp, hop, go_sem, ev e4, c0']) rfl (Ext.refl W)
set_option maxHeartbeats 1000000 in
theorem cr8_op6 (hcal8 : ∀ W, Ext V W → Calls Try.prog 58 #[.agg #[.slice A n c, .slice A' n' c'], .int .i64 y1] W fun e w' => e = .returned (.bool bo) ∧ Ext W w') (hB : Ext V W) (haft : ∀ j, (o.after.any fun e => decide (e.on = j) && Region.binds .any e) = true → cr8S p A n c A' n' c' g of ln cl jj y1 bo j (a.eval (.tmp (cr8D j))) W) (ho : cr8Reg[6]? = some o) : cr8Ok p A n c A' n' c' g of ln cl jj y1 bo Q a W 6 o := by
  have hop := op_at ho (·.op) (x := Op.call { callee := Callee.value (Operand.func 58), args := #[Operand.tmp 24, Operand.tmp 29], argTypes := #[25, 3] }) (by kernel_rfl)
  have hgd := op_at ho (·.guard) (x := none) (by kernel_rfl)
  have e0 : a.eval (.tmp 24) = .agg #[.slice A n c, .slice A' n' c'] := haft 0 (op_at ho (fun o => o.after.any fun e => decide (e.on = 0) && Region.binds .any e) (x := true) (by kernel_rfl))
  have e5 : a.eval (.tmp 29) = .int .i64 y1 := haft 5 (op_at ho (fun o => o.after.any fun e => decide (e.on = 5) && Region.binds .any e) (x := true) (by kernel_rfl))
  refine ⟨fun j b h => (by rw [hgd] at h; cases h), ?_⟩
  refine specs_call (R := fun v W => cr8S p A n c A' n' c' g of ln cl jj y1 bo 6 v W) (f := 58) (args := #[.agg #[.slice A n c, .slice A' n' c'], .int .i64 y1]) (by simp [execOp, hop, go_sem, ev e0, ev e5]) ((hcal8 W hB).mono ?_)
  rintro e w' ⟨rfl, h3⟩
  exact ⟨_, rfl, rfl, h3⟩
set_option maxHeartbeats 1000000 in
theorem cr8_op7 (haft : ∀ j, (o.after.any fun e => decide (e.on = j) && Region.binds .any e) = true → cr8S p A n c A' n' c' g of ln cl jj y1 bo j (a.eval (.tmp (cr8D j))) W) (ho : cr8Reg[7]? = some o) : cr8Ok p A n c A' n' c' g of ln cl jj y1 bo Q a W 7 o := by
  have hop := op_at ho (·.op) (x := Op.unOp UnOp.not 4 (Operand.tmp 30)) (by kernel_rfl)
  have hgd := op_at ho (·.guard) (x := none) (by kernel_rfl)
  have e6 : cr8S p A n c A' n' c' g of ln cl jj y1 bo 6 (a.eval (.tmp 30)) W := haft 6 (op_at ho (fun o => o.after.any fun e => decide (e.on = 6) && Region.binds .any e) (x := true) (by kernel_rfl))
  refine ⟨fun j b h => (by rw [hgd] at h; cases h), ?_⟩
  have e6' : a.eval (.tmp 30) = .bool bo := e6
  exact specs_value (R := fun v W => cr8S p A n c A' n' c' g of ln cl jj y1 bo 7 v W) (v := .bool (!bo)) (by simp [execOp, hop, go_sem, ev e6']) rfl (Ext.refl W)
set_option maxRecDepth 100000 in
set_option maxHeartbeats 4000000 in
/-- Region 8 of function 42. -/
theorem cr8_wp {id : Nat} (hlen : a.tmps.size = 80) (o1 : a.eval (.tmp 1) = .slice (some ⟨g, of, none⟩) ln cl) (o2 : a.eval (.tmp 2) = .pointer (some ⟨p, 0, none⟩)) (o5 : a.eval (.tmp 5) = .int .i64 (jj : Int)) (q0 : ∀ W, Ext V W → W.cell? ⟨p, 0, none⟩ = some (.slice A n c)) (q1 : ∀ W, Ext V W → W.cell? ⟨p, 1, none⟩ = some (.slice A' n' c')) (hj : jj < ln) (c0 : ∀ W, Ext V W → W.cell? ⟨g, of + jj * 2, none⟩ = some (.int .i64 y1)) (hcal8 : ∀ W, Ext V W → Calls Try.prog 58 #[.agg #[.slice A n c, .slice A' n' c'], .int .i64 y1] W fun e w' => e = .returned (.bool bo) ∧ Ext W w') (K : (∀ W v6, Ext V W → cr8S p A n c A' n' c' g of ln cl jj y1 bo 6 v6 W → wpList Try.prog cr8Reg Q (cr8Reg.toList.drop 8) (puts a [(24, .agg #[.slice A n c, .slice A' n' c']), (25, .slice (some ⟨g, of, none⟩) ln cl), (26, .int .i64 (jj : Int)), (27, .pointer (some ⟨g, of + jj * 2, none⟩)), (28, .pointer (some ⟨g, of + jj * 2, none⟩)), (29, .int .i64 y1), (30, v6), (31, .bool (!bo))]) W)) : (Code.region id cr8Reg true).wp Try.prog Q a V := by
  refine wp_region_specs_free (ops := cr8Reg) 8 (cr8S p A n c A' n' c' g of ln cl jj y1 bo) (Ext V) (by kernel_rfl) (by rw [hlen]; kernel_rfl) (by kernel_rfl) ⟨rfl, rfl, rfl, Nat.le_refl _, fun _ _ => rfl⟩ (fun _ _ h e => h.trans e) cr8S_ext cr8D (by kernel_rfl) ?_ ?_
  · intro i o hi ho a' W hB hsz hold haft
    match i, hi with
    | 0, _ => exact cr8_op0 ((hold 2 (by kernel_rfl)).trans o2) q0 q1 hB ho
    | 1, _ => exact cr8_op1 ((hold 1 (by kernel_rfl)).trans o1) ho
    | 2, _ => exact cr8_op2 ((hold 5 (by kernel_rfl)).trans o5) ho
    | 3, _ => exact cr8_op3 hj haft ho
    | 4, _ => exact cr8_op4 haft ho
    | 5, _ => exact cr8_op5 c0 hB haft ho
    | 6, _ => exact cr8_op6 hcal8 hB haft ho
    | 7, _ => exact cr8_op7 haft ho
    | m + 8, h => exact absurd h (by omega)
  · intro a1 W hB hsz hdf hold hS
    obtain ⟨v6, g6⟩ : ∃ v, v = a1.eval (.tmp 30) := ⟨_, rfl⟩
    have hall : ∀ z, z ∈ ([(24, .agg #[.slice A n c, .slice A' n' c']), (25, .slice (some ⟨g, of, none⟩) ln cl), (26, .int .i64 (jj : Int)), (27, .pointer (some ⟨g, of + jj * 2, none⟩)), (28, .pointer (some ⟨g, of + jj * 2, none⟩)), (29, .int .i64 y1), (30, v6), (31, .bool (!bo))] : List (Tmp × Value)) → z.1 < a.tmps.size ∧ a1.eval (.tmp z.1) = z.2 := by
      intro z hz
      rw [hlen]
      simp only [List.mem_cons, List.not_mem_nil, or_false] at hz
      rcases hz with rfl | rfl | rfl | rfl | rfl | rfl | rfl | rfl
      · exact ⟨(show (24 : Nat) < 80 by omega), hS 0 (by omega)⟩
      · exact ⟨(show (25 : Nat) < 80 by omega), hS 1 (by omega)⟩
      · exact ⟨(show (26 : Nat) < 80 by omega), hS 2 (by omega)⟩
      · exact ⟨(show (27 : Nat) < 80 by omega), hS 3 (by omega)⟩
      · exact ⟨(show (28 : Nat) < 80 by omega), hS 4 (by omega)⟩
      · exact ⟨(show (29 : Nat) < 80 by omega), hS 5 (by omega)⟩
      · exact ⟨(show (30 : Nat) < 80 by omega), g6.symm⟩
      · exact ⟨(show (31 : Nat) < 80 by omega), hS 7 (by omega)⟩
    have ha := act_puts hsz hdf hall (fun t ht => hold t (all_ne_of (l := [(24, .agg #[.slice A n c, .slice A' n' c']), (25, .slice (some ⟨g, of, none⟩) ln cl), (26, .int .i64 (jj : Int)), (27, .pointer (some ⟨g, of + jj * 2, none⟩)), (28, .pointer (some ⟨g, of + jj * 2, none⟩)), (29, .int .i64 y1), (30, v6), (31, .bool (!bo))]) (by kernel_rfl) ht))
    rw [ha]
    exact K W v6 hB (by rw [g6]; exact hS 6 (by omega))
end

/-- The slots of region 14 of function 42. -/
def cr14D (i : Nat) : Tmp := if i = 0 then 38 else if i = 1 then 39 else if i = 2 then 40 else if i = 3 then 41 else if i = 4 then 42 else if i = 5 then 43 else 44
/-- What each operation yields. -/
def cr14S (_p : Nat) (A : Option Addr) (n c : Nat) (A' : Option Addr) (n' c' g of ln cl jj : Nat) (bt : Nat) (y1 y2 : Int) (bz : Bool) (ix : Nat) (v : Value) (_W : World) : Prop :=
  match ix with
  | 0 => v = .agg #[.slice A n c, .slice A' n' c']
  | 1 => v = .slice (some ⟨g, of, none⟩) ln cl
  | 2 => v = .int .i64 (jj : Int)
  | 3 => v = .pointer (some ⟨g, of + jj * 2, none⟩)
  | 4 => v = .agg #[.int .i64 y1, .int .i64 y2]
  | 5 => v = .int .i64 (bt : Int)
  | 6 => v = .bool bz
  | _ => True
noncomputable def cr14Reg : Array Oper := (Try.f42.body.bind (regionOf · 14)).getD #[]
theorem cr14S_ext {p : Nat} {A : Option Addr} {n c : Nat} {A' : Option Addr} {n' c' g of ln cl jj : Nat} {bt : Nat} {y1 y2 : Int} {bz : Bool} : ∀ (i : Nat) (v : Value) (W W' : World), cr14S p A n c A' n' c' g of ln cl jj bt y1 y2 bz i v W → Below W.heap.size W W' → cr14S p A n c A' n' c' g of ln cl jj bt y1 y2 bz i v W' := by
  intro i v W W' h e
  match i with
  | 0 => exact h
  | 1 => exact h
  | 2 => exact h
  | 3 => exact h
  | 4 => exact h
  | 5 => exact h
  | 6 => exact h
  | k + 7 => exact trivial
def cr14Ok (p : Nat) (A : Option Addr) (n c : Nat) (A' : Option Addr) (n' c' g of ln cl jj : Nat) (bt : Nat) (y1 y2 : Int) (bz : Bool) (Q : Exit → Act → World → Prop) (a : Act) (W : World) (ix : Nat) (o : Oper) : Prop :=
  (∀ j b, o.guard = some (j, b) → a.eval (.tmp (cr14D j)) = .bool b) ∧ o.wp Try.prog a W (fun a'' W' => ∃ v, a'' = a.put o.dst v ∧ cr14S p A n c A' n' c' g of ln cl jj bt y1 y2 bz ix v W' ∧ Below W.heap.size W W') Q
section
variable {p : Nat} {A : Option Addr} {n c : Nat} {A' : Option Addr} {n' c' g of ln cl jj : Nat} {bt : Nat} {y1 y2 : Int} {bz : Bool} {Q : Exit → Act → World → Prop} {a : Act} {V W : World} {o : Oper}
set_option maxHeartbeats 1000000 in
theorem cr14_op0 (o2 : a.eval (.tmp 2) = .pointer (some ⟨p, 0, none⟩)) (q0 : ∀ W, Ext V W → W.cell? ⟨p, 0, none⟩ = some (.slice A n c)) (q1 : ∀ W, Ext V W → W.cell? ⟨p, 1, none⟩ = some (.slice A' n' c')) (hB : Ext V W) (ho : cr14Reg[0]? = some o) : cr14Ok p A n c A' n' c' g of ln cl jj bt y1 y2 bz Q a W 0 o := by
  have hop := op_at ho (·.op) (x := Op.load 25 (Operand.tmp 2)) (by kernel_rfl)
  have hgd := op_at ho (·.guard) (x := none) (by kernel_rfl)
  refine ⟨fun j b h => (by rw [hgd] at h; cases h), ?_⟩
  have q0' := q0 W hB
  have q1' := q1 W hB
  exact specs_value (R := fun v W => cr14S p A n c A' n' c' g of ln cl jj bt y1 y2 bz 0 v W) (v := .agg #[.slice A n c, .slice A' n' c']) (by simp [execOp, hop, go_sem, ev o2, q0', q1']) rfl (Ext.refl W)
set_option maxHeartbeats 1000000 in
theorem cr14_op1 (o1 : a.eval (.tmp 1) = .slice (some ⟨g, of, none⟩) ln cl) (ho : cr14Reg[1]? = some o) : cr14Ok p A n c A' n' c' g of ln cl jj bt y1 y2 bz Q a W 1 o := by
  have hop := op_at ho (·.op) (x := Op.move (Operand.tmp 1)) (by kernel_rfl)
  have hgd := op_at ho (·.guard) (x := none) (by kernel_rfl)
  refine ⟨fun j b h => (by rw [hgd] at h; cases h), ?_⟩
  exact specs_value (R := fun v W => cr14S p A n c A' n' c' g of ln cl jj bt y1 y2 bz 1 v W) (v := .slice (some ⟨g, of, none⟩) ln cl) (by simp [execOp, hop, go_sem, ev o1]) rfl (Ext.refl W)
set_option maxHeartbeats 1000000 in
theorem cr14_op2 (o7 : a.eval (.tmp 7) = .int .i64 (jj : Int)) (ho : cr14Reg[2]? = some o) : cr14Ok p A n c A' n' c' g of ln cl jj bt y1 y2 bz Q a W 2 o := by
  have hop := op_at ho (·.op) (x := Op.move (Operand.tmp 7)) (by kernel_rfl)
  have hgd := op_at ho (·.guard) (x := none) (by kernel_rfl)
  refine ⟨fun j b h => (by rw [hgd] at h; cases h), ?_⟩
  exact specs_value (R := fun v W => cr14S p A n c A' n' c' g of ln cl jj bt y1 y2 bz 2 v W) (v := .int .i64 (jj : Int)) (by simp [execOp, hop, go_sem, ev o7]) rfl (Ext.refl W)
set_option maxHeartbeats 1000000 in
theorem cr14_op3 (hj : jj < ln) (haft : ∀ j, (o.after.any fun e => decide (e.on = j) && Region.binds .any e) = true → cr14S p A n c A' n' c' g of ln cl jj bt y1 y2 bz j (a.eval (.tmp (cr14D j))) W) (ho : cr14Reg[3]? = some o) : cr14Ok p A n c A' n' c' g of ln cl jj bt y1 y2 bz Q a W 3 o := by
  have hop := op_at ho (·.op) (x := Op.indexAddr 54 (Operand.tmp 39) (Operand.tmp 40)) (by kernel_rfl)
  have hgd := op_at ho (·.guard) (x := none) (by kernel_rfl)
  have e1 : a.eval (.tmp 39) = .slice (some ⟨g, of, none⟩) ln cl := haft 1 (op_at ho (fun o => o.after.any fun e => decide (e.on = 1) && Region.binds .any e) (x := true) (by kernel_rfl))
  have e2 : a.eval (.tmp 40) = .int .i64 (jj : Int) := haft 2 (op_at ho (fun o => o.after.any fun e => decide (e.on = 2) && Region.binds .any e) (x := true) (by kernel_rfl))
  refine ⟨fun j b h => (by rw [hgd] at h; cases h), ?_⟩
  have hjz : (jj : Int) < (ln : Int) := by omega
  exact specs_value (R := fun v W => cr14S p A n c A' n' c' g of ln cl jj bt y1 y2 bz 3 v W) (v := .pointer (some ⟨g, of + jj * 2, none⟩)) (by simp [execOp, hop, go_sem, ev e1, ev e2, hjz]) rfl (Ext.refl W)
set_option maxHeartbeats 1000000 in
theorem cr14_op4 (c0 : ∀ W, Ext V W → W.cell? ⟨g, of + jj * 2, none⟩ = some (.int .i64 y1)) (c1 : ∀ W, Ext V W → W.cell? ⟨g, of + jj * 2 + 1, none⟩ = some (.int .i64 y2)) (hB : Ext V W) (haft : ∀ j, (o.after.any fun e => decide (e.on = j) && Region.binds .any e) = true → cr14S p A n c A' n' c' g of ln cl jj bt y1 y2 bz j (a.eval (.tmp (cr14D j))) W) (ho : cr14Reg[4]? = some o) : cr14Ok p A n c A' n' c' g of ln cl jj bt y1 y2 bz Q a W 4 o := by
  have hop := op_at ho (·.op) (x := Op.load 27 (Operand.tmp 41)) (by kernel_rfl)
  have hgd := op_at ho (·.guard) (x := none) (by kernel_rfl)
  have e3 : a.eval (.tmp 41) = .pointer (some ⟨g, of + jj * 2, none⟩) := haft 3 (op_at ho (fun o => o.after.any fun e => decide (e.on = 3) && Region.binds .any e) (x := true) (by kernel_rfl))
  refine ⟨fun j b h => (by rw [hgd] at h; cases h), ?_⟩
  have c0' := c0 W hB
  have c1' := c1 W hB
  exact specs_value (R := fun v W => cr14S p A n c A' n' c' g of ln cl jj bt y1 y2 bz 4 v W) (v := .agg #[.int .i64 y1, .int .i64 y2]) (by simp [execOp, hop, go_sem, ev e3, c0', c1']) rfl (Ext.refl W)
set_option maxHeartbeats 1000000 in
theorem cr14_op5 (hcall : ∀ W, Ext V W → Calls Try.prog 59 #[.agg #[.slice A n c, .slice A' n' c'], .agg #[.int .i64 y1, .int .i64 y2]] W fun e w' => e = .returned (.int .i64 (bt : Int)) ∧ Ext W w') (hB : Ext V W) (haft : ∀ j, (o.after.any fun e => decide (e.on = j) && Region.binds .any e) = true → cr14S p A n c A' n' c' g of ln cl jj bt y1 y2 bz j (a.eval (.tmp (cr14D j))) W) (ho : cr14Reg[5]? = some o) : cr14Ok p A n c A' n' c' g of ln cl jj bt y1 y2 bz Q a W 5 o := by
  have hop := op_at ho (·.op) (x := Op.call { callee := Callee.value (Operand.func 59), args := #[Operand.tmp 38, Operand.tmp 42], argTypes := #[25, 27] }) (by kernel_rfl)
  have hgd := op_at ho (·.guard) (x := none) (by kernel_rfl)
  have e0 : a.eval (.tmp 38) = .agg #[.slice A n c, .slice A' n' c'] := haft 0 (op_at ho (fun o => o.after.any fun e => decide (e.on = 0) && Region.binds .any e) (x := true) (by kernel_rfl))
  have e4 : a.eval (.tmp 42) = .agg #[.int .i64 y1, .int .i64 y2] := haft 4 (op_at ho (fun o => o.after.any fun e => decide (e.on = 4) && Region.binds .any e) (x := true) (by kernel_rfl))
  refine ⟨fun j b h => (by rw [hgd] at h; cases h), ?_⟩
  refine specs_call (R := fun v W => cr14S p A n c A' n' c' g of ln cl jj bt y1 y2 bz 5 v W) (f := 59) (args := #[.agg #[.slice A n c, .slice A' n' c'], .agg #[.int .i64 y1, .int .i64 y2]]) (by simp [execOp, hop, go_sem, ev e0, ev e4]) ((hcall W hB).mono ?_)
  rintro e w' ⟨rfl, h3⟩
  exact ⟨_, rfl, rfl, h3⟩
set_option maxHeartbeats 1000000 in
theorem cr14_op6 (hz : ((bt : Int) == 0) = bz) (haft : ∀ j, (o.after.any fun e => decide (e.on = j) && Region.binds .any e) = true → cr14S p A n c A' n' c' g of ln cl jj bt y1 y2 bz j (a.eval (.tmp (cr14D j))) W) (ho : cr14Reg[6]? = some o) : cr14Ok p A n c A' n' c' g of ln cl jj bt y1 y2 bz Q a W 6 o := by
  have hop := op_at ho (·.op) (x := Op.binOp BinOp.eql 3 (Operand.tmp 43) (Operand.const (Value.int IntKind.i64 0)) 3) (by kernel_rfl)
  have hgd := op_at ho (·.guard) (x := none) (by kernel_rfl)
  have e5 : cr14S p A n c A' n' c' g of ln cl jj bt y1 y2 bz 5 (a.eval (.tmp 43)) W := haft 5 (op_at ho (fun o => o.after.any fun e => decide (e.on = 5) && Region.binds .any e) (x := true) (by kernel_rfl))
  refine ⟨fun j b h => (by rw [hgd] at h; cases h), ?_⟩
  have e5' : a.eval (.tmp 43) = .int .i64 (bt : Int) := e5
  exact specs_value (R := fun v W => cr14S p A n c A' n' c' g of ln cl jj bt y1 y2 bz 6 v W) (v := .bool bz) (by simp [execOp, hop, go_sem, ev e5', ← hz]) rfl (Ext.refl W)
set_option maxRecDepth 100000 in
set_option maxHeartbeats 4000000 in
/-- Region 14 of function 42. -/
theorem cr14_wp {id : Nat} (hlen : a.tmps.size = 80) (o1 : a.eval (.tmp 1) = .slice (some ⟨g, of, none⟩) ln cl) (o2 : a.eval (.tmp 2) = .pointer (some ⟨p, 0, none⟩)) (o7 : a.eval (.tmp 7) = .int .i64 (jj : Int)) (q0 : ∀ W, Ext V W → W.cell? ⟨p, 0, none⟩ = some (.slice A n c)) (q1 : ∀ W, Ext V W → W.cell? ⟨p, 1, none⟩ = some (.slice A' n' c')) (hj : jj < ln) (c0 : ∀ W, Ext V W → W.cell? ⟨g, of + jj * 2, none⟩ = some (.int .i64 y1)) (c1 : ∀ W, Ext V W → W.cell? ⟨g, of + jj * 2 + 1, none⟩ = some (.int .i64 y2)) (hcall : ∀ W, Ext V W → Calls Try.prog 59 #[.agg #[.slice A n c, .slice A' n' c'], .agg #[.int .i64 y1, .int .i64 y2]] W fun e w' => e = .returned (.int .i64 (bt : Int)) ∧ Ext W w') (hz : ((bt : Int) == 0) = bz) (K : (∀ W v5, Ext V W → cr14S p A n c A' n' c' g of ln cl jj bt y1 y2 bz 5 v5 W → wpList Try.prog cr14Reg Q (cr14Reg.toList.drop 7) (puts a [(38, .agg #[.slice A n c, .slice A' n' c']), (39, .slice (some ⟨g, of, none⟩) ln cl), (40, .int .i64 (jj : Int)), (41, .pointer (some ⟨g, of + jj * 2, none⟩)), (42, .agg #[.int .i64 y1, .int .i64 y2]), (43, v5), (44, .bool bz)]) W)) : (Code.region id cr14Reg true).wp Try.prog Q a V := by
  refine wp_region_specs_free (ops := cr14Reg) 7 (cr14S p A n c A' n' c' g of ln cl jj bt y1 y2 bz) (Ext V) (by kernel_rfl) (by rw [hlen]; kernel_rfl) (by kernel_rfl) ⟨rfl, rfl, rfl, Nat.le_refl _, fun _ _ => rfl⟩ (fun _ _ h e => h.trans e) cr14S_ext cr14D (by kernel_rfl) ?_ ?_
  · intro i o hi ho a' W hB hsz hold haft
    match i, hi with
    | 0, _ => exact cr14_op0 ((hold 2 (by kernel_rfl)).trans o2) q0 q1 hB ho
    | 1, _ => exact cr14_op1 ((hold 1 (by kernel_rfl)).trans o1) ho
    | 2, _ => exact cr14_op2 ((hold 7 (by kernel_rfl)).trans o7) ho
    | 3, _ => exact cr14_op3 hj haft ho
    | 4, _ => exact cr14_op4 c0 c1 hB haft ho
    | 5, _ => exact cr14_op5 hcall hB haft ho
    | 6, _ => exact cr14_op6 hz haft ho
    | m + 7, h => exact absurd h (by omega)
  · intro a1 W hB hsz hdf hold hS
    obtain ⟨v5, g5⟩ : ∃ v, v = a1.eval (.tmp 43) := ⟨_, rfl⟩
    have hall : ∀ z, z ∈ ([(38, .agg #[.slice A n c, .slice A' n' c']), (39, .slice (some ⟨g, of, none⟩) ln cl), (40, .int .i64 (jj : Int)), (41, .pointer (some ⟨g, of + jj * 2, none⟩)), (42, .agg #[.int .i64 y1, .int .i64 y2]), (43, v5), (44, .bool bz)] : List (Tmp × Value)) → z.1 < a.tmps.size ∧ a1.eval (.tmp z.1) = z.2 := by
      intro z hz
      rw [hlen]
      simp only [List.mem_cons, List.not_mem_nil, or_false] at hz
      rcases hz with rfl | rfl | rfl | rfl | rfl | rfl | rfl
      · exact ⟨(show (38 : Nat) < 80 by omega), hS 0 (by omega)⟩
      · exact ⟨(show (39 : Nat) < 80 by omega), hS 1 (by omega)⟩
      · exact ⟨(show (40 : Nat) < 80 by omega), hS 2 (by omega)⟩
      · exact ⟨(show (41 : Nat) < 80 by omega), hS 3 (by omega)⟩
      · exact ⟨(show (42 : Nat) < 80 by omega), hS 4 (by omega)⟩
      · exact ⟨(show (43 : Nat) < 80 by omega), g5.symm⟩
      · exact ⟨(show (44 : Nat) < 80 by omega), hS 6 (by omega)⟩
    have ha := act_puts hsz hdf hall (fun t ht => hold t (all_ne_of (l := [(38, .agg #[.slice A n c, .slice A' n' c']), (39, .slice (some ⟨g, of, none⟩) ln cl), (40, .int .i64 (jj : Int)), (41, .pointer (some ⟨g, of + jj * 2, none⟩)), (42, .agg #[.int .i64 y1, .int .i64 y2]), (43, v5), (44, .bool bz)]) (by kernel_rfl) ht))
    rw [ha]
    exact K W v5 hB (by rw [g5]; exact hS 5 (by omega))
end

/-- The slots of region 16 of function 42. -/
def cr16D (i : Nat) : Tmp := if i = 0 then 45 else if i = 1 then 46 else if i = 2 then 47 else if i = 3 then 48 else if i = 4 then 49 else if i = 5 then 50 else if i = 6 then 51 else 52
/-- What each operation yields. -/
def cr16S (_p : Nat) (A : Option Addr) (n c : Nat) (A' : Option Addr) (n' c' g of ln cl jj : Nat) (zz bt : Nat) (y1 y2 : Int) (ix : Nat) (v : Value) (_W : World) : Prop :=
  match ix with
  | 0 => v = .int .i64 (zz : Int)
  | 1 => v = .agg #[.slice A n c, .slice A' n' c']
  | 2 => v = .slice (some ⟨g, of, none⟩) ln cl
  | 3 => v = .int .i64 (jj : Int)
  | 4 => v = .pointer (some ⟨g, of + jj * 2, none⟩)
  | 5 => v = .agg #[.int .i64 y1, .int .i64 y2]
  | 6 => v = .int .i64 (bt : Int)
  | 7 => v = .int .i64 ((zz ||| bt : Nat) : Int)
  | _ => True
noncomputable def cr16Reg : Array Oper := (Try.f42.body.bind (regionOf · 16)).getD #[]
theorem cr16S_ext {p : Nat} {A : Option Addr} {n c : Nat} {A' : Option Addr} {n' c' g of ln cl jj : Nat} {zz bt : Nat} {y1 y2 : Int} : ∀ (i : Nat) (v : Value) (W W' : World), cr16S p A n c A' n' c' g of ln cl jj zz bt y1 y2 i v W → Below W.heap.size W W' → cr16S p A n c A' n' c' g of ln cl jj zz bt y1 y2 i v W' := by
  intro i v W W' h e
  match i with
  | 0 => exact h
  | 1 => exact h
  | 2 => exact h
  | 3 => exact h
  | 4 => exact h
  | 5 => exact h
  | 6 => exact h
  | 7 => exact h
  | k + 8 => exact trivial
def cr16Ok (p : Nat) (A : Option Addr) (n c : Nat) (A' : Option Addr) (n' c' g of ln cl jj : Nat) (zz bt : Nat) (y1 y2 : Int) (Q : Exit → Act → World → Prop) (a : Act) (W : World) (ix : Nat) (o : Oper) : Prop :=
  (∀ j b, o.guard = some (j, b) → a.eval (.tmp (cr16D j)) = .bool b) ∧ o.wp Try.prog a W (fun a'' W' => ∃ v, a'' = a.put o.dst v ∧ cr16S p A n c A' n' c' g of ln cl jj zz bt y1 y2 ix v W' ∧ Below W.heap.size W W') Q
section
variable {p : Nat} {A : Option Addr} {n c : Nat} {A' : Option Addr} {n' c' g of ln cl jj : Nat} {zz bt : Nat} {y1 y2 : Int} {Q : Exit → Act → World → Prop} {a : Act} {V W : World} {o : Oper}
set_option maxHeartbeats 1000000 in
theorem cr16_op0 (o6 : a.eval (.tmp 6) = .int .i64 (zz : Int)) (ho : cr16Reg[0]? = some o) : cr16Ok p A n c A' n' c' g of ln cl jj zz bt y1 y2 Q a W 0 o := by
  have hop := op_at ho (·.op) (x := Op.move (Operand.tmp 6)) (by kernel_rfl)
  have hgd := op_at ho (·.guard) (x := none) (by kernel_rfl)
  refine ⟨fun j b h => (by rw [hgd] at h; cases h), ?_⟩
  exact specs_value (R := fun v W => cr16S p A n c A' n' c' g of ln cl jj zz bt y1 y2 0 v W) (v := .int .i64 (zz : Int)) (by simp [execOp, hop, go_sem, ev o6]) rfl (Ext.refl W)
set_option maxHeartbeats 1000000 in
theorem cr16_op1 (o2 : a.eval (.tmp 2) = .pointer (some ⟨p, 0, none⟩)) (q0 : ∀ W, Ext V W → W.cell? ⟨p, 0, none⟩ = some (.slice A n c)) (q1 : ∀ W, Ext V W → W.cell? ⟨p, 1, none⟩ = some (.slice A' n' c')) (hB : Ext V W) (ho : cr16Reg[1]? = some o) : cr16Ok p A n c A' n' c' g of ln cl jj zz bt y1 y2 Q a W 1 o := by
  have hop := op_at ho (·.op) (x := Op.load 25 (Operand.tmp 2)) (by kernel_rfl)
  have hgd := op_at ho (·.guard) (x := none) (by kernel_rfl)
  refine ⟨fun j b h => (by rw [hgd] at h; cases h), ?_⟩
  have q0' := q0 W hB
  have q1' := q1 W hB
  exact specs_value (R := fun v W => cr16S p A n c A' n' c' g of ln cl jj zz bt y1 y2 1 v W) (v := .agg #[.slice A n c, .slice A' n' c']) (by simp [execOp, hop, go_sem, ev o2, q0', q1']) rfl (Ext.refl W)
set_option maxHeartbeats 1000000 in
theorem cr16_op2 (o1 : a.eval (.tmp 1) = .slice (some ⟨g, of, none⟩) ln cl) (ho : cr16Reg[2]? = some o) : cr16Ok p A n c A' n' c' g of ln cl jj zz bt y1 y2 Q a W 2 o := by
  have hop := op_at ho (·.op) (x := Op.move (Operand.tmp 1)) (by kernel_rfl)
  have hgd := op_at ho (·.guard) (x := none) (by kernel_rfl)
  refine ⟨fun j b h => (by rw [hgd] at h; cases h), ?_⟩
  exact specs_value (R := fun v W => cr16S p A n c A' n' c' g of ln cl jj zz bt y1 y2 2 v W) (v := .slice (some ⟨g, of, none⟩) ln cl) (by simp [execOp, hop, go_sem, ev o1]) rfl (Ext.refl W)
set_option maxHeartbeats 1000000 in
theorem cr16_op3 (o7 : a.eval (.tmp 7) = .int .i64 (jj : Int)) (ho : cr16Reg[3]? = some o) : cr16Ok p A n c A' n' c' g of ln cl jj zz bt y1 y2 Q a W 3 o := by
  have hop := op_at ho (·.op) (x := Op.move (Operand.tmp 7)) (by kernel_rfl)
  have hgd := op_at ho (·.guard) (x := none) (by kernel_rfl)
  refine ⟨fun j b h => (by rw [hgd] at h; cases h), ?_⟩
  exact specs_value (R := fun v W => cr16S p A n c A' n' c' g of ln cl jj zz bt y1 y2 3 v W) (v := .int .i64 (jj : Int)) (by simp [execOp, hop, go_sem, ev o7]) rfl (Ext.refl W)
set_option maxHeartbeats 1000000 in
theorem cr16_op4 (hj : jj < ln) (haft : ∀ j, (o.after.any fun e => decide (e.on = j) && Region.binds .any e) = true → cr16S p A n c A' n' c' g of ln cl jj zz bt y1 y2 j (a.eval (.tmp (cr16D j))) W) (ho : cr16Reg[4]? = some o) : cr16Ok p A n c A' n' c' g of ln cl jj zz bt y1 y2 Q a W 4 o := by
  have hop := op_at ho (·.op) (x := Op.indexAddr 54 (Operand.tmp 47) (Operand.tmp 48)) (by kernel_rfl)
  have hgd := op_at ho (·.guard) (x := none) (by kernel_rfl)
  have e2 : a.eval (.tmp 47) = .slice (some ⟨g, of, none⟩) ln cl := haft 2 (op_at ho (fun o => o.after.any fun e => decide (e.on = 2) && Region.binds .any e) (x := true) (by kernel_rfl))
  have e3 : a.eval (.tmp 48) = .int .i64 (jj : Int) := haft 3 (op_at ho (fun o => o.after.any fun e => decide (e.on = 3) && Region.binds .any e) (x := true) (by kernel_rfl))
  refine ⟨fun j b h => (by rw [hgd] at h; cases h), ?_⟩
  have hjz : (jj : Int) < (ln : Int) := by omega
  exact specs_value (R := fun v W => cr16S p A n c A' n' c' g of ln cl jj zz bt y1 y2 4 v W) (v := .pointer (some ⟨g, of + jj * 2, none⟩)) (by simp [execOp, hop, go_sem, ev e2, ev e3, hjz]) rfl (Ext.refl W)
set_option maxHeartbeats 1000000 in
theorem cr16_op5 (c0 : ∀ W, Ext V W → W.cell? ⟨g, of + jj * 2, none⟩ = some (.int .i64 y1)) (c1 : ∀ W, Ext V W → W.cell? ⟨g, of + jj * 2 + 1, none⟩ = some (.int .i64 y2)) (hB : Ext V W) (haft : ∀ j, (o.after.any fun e => decide (e.on = j) && Region.binds .any e) = true → cr16S p A n c A' n' c' g of ln cl jj zz bt y1 y2 j (a.eval (.tmp (cr16D j))) W) (ho : cr16Reg[5]? = some o) : cr16Ok p A n c A' n' c' g of ln cl jj zz bt y1 y2 Q a W 5 o := by
  have hop := op_at ho (·.op) (x := Op.load 27 (Operand.tmp 49)) (by kernel_rfl)
  have hgd := op_at ho (·.guard) (x := none) (by kernel_rfl)
  have e4 : a.eval (.tmp 49) = .pointer (some ⟨g, of + jj * 2, none⟩) := haft 4 (op_at ho (fun o => o.after.any fun e => decide (e.on = 4) && Region.binds .any e) (x := true) (by kernel_rfl))
  refine ⟨fun j b h => (by rw [hgd] at h; cases h), ?_⟩
  have c0' := c0 W hB
  have c1' := c1 W hB
  exact specs_value (R := fun v W => cr16S p A n c A' n' c' g of ln cl jj zz bt y1 y2 5 v W) (v := .agg #[.int .i64 y1, .int .i64 y2]) (by simp [execOp, hop, go_sem, ev e4, c0', c1']) rfl (Ext.refl W)
set_option maxHeartbeats 1000000 in
theorem cr16_op6 (hcall : ∀ W, Ext V W → Calls Try.prog 59 #[.agg #[.slice A n c, .slice A' n' c'], .agg #[.int .i64 y1, .int .i64 y2]] W fun e w' => e = .returned (.int .i64 (bt : Int)) ∧ Ext W w') (hB : Ext V W) (haft : ∀ j, (o.after.any fun e => decide (e.on = j) && Region.binds .any e) = true → cr16S p A n c A' n' c' g of ln cl jj zz bt y1 y2 j (a.eval (.tmp (cr16D j))) W) (ho : cr16Reg[6]? = some o) : cr16Ok p A n c A' n' c' g of ln cl jj zz bt y1 y2 Q a W 6 o := by
  have hop := op_at ho (·.op) (x := Op.call { callee := Callee.value (Operand.func 59), args := #[Operand.tmp 46, Operand.tmp 50], argTypes := #[25, 27] }) (by kernel_rfl)
  have hgd := op_at ho (·.guard) (x := none) (by kernel_rfl)
  have e1 : a.eval (.tmp 46) = .agg #[.slice A n c, .slice A' n' c'] := haft 1 (op_at ho (fun o => o.after.any fun e => decide (e.on = 1) && Region.binds .any e) (x := true) (by kernel_rfl))
  have e5 : a.eval (.tmp 50) = .agg #[.int .i64 y1, .int .i64 y2] := haft 5 (op_at ho (fun o => o.after.any fun e => decide (e.on = 5) && Region.binds .any e) (x := true) (by kernel_rfl))
  refine ⟨fun j b h => (by rw [hgd] at h; cases h), ?_⟩
  refine specs_call (R := fun v W => cr16S p A n c A' n' c' g of ln cl jj zz bt y1 y2 6 v W) (f := 59) (args := #[.agg #[.slice A n c, .slice A' n' c'], .agg #[.int .i64 y1, .int .i64 y2]]) (by simp [execOp, hop, go_sem, ev e1, ev e5]) ((hcall W hB).mono ?_)
  rintro e w' ⟨rfl, h3⟩
  exact ⟨_, rfl, rfl, h3⟩
set_option maxHeartbeats 1000000 in
theorem cr16_op7 (hor : bits .or .i64 (zz : Int) (bt : Int) = ((zz ||| bt : Nat) : Int)) (haft : ∀ j, (o.after.any fun e => decide (e.on = j) && Region.binds .any e) = true → cr16S p A n c A' n' c' g of ln cl jj zz bt y1 y2 j (a.eval (.tmp (cr16D j))) W) (ho : cr16Reg[7]? = some o) : cr16Ok p A n c A' n' c' g of ln cl jj zz bt y1 y2 Q a W 7 o := by
  have hop := op_at ho (·.op) (x := Op.binOp BinOp.or 3 (Operand.tmp 45) (Operand.tmp 51) 3) (by kernel_rfl)
  have hgd := op_at ho (·.guard) (x := none) (by kernel_rfl)
  have e0 : a.eval (.tmp 45) = .int .i64 (zz : Int) := haft 0 (op_at ho (fun o => o.after.any fun e => decide (e.on = 0) && Region.binds .any e) (x := true) (by kernel_rfl))
  have e6 : cr16S p A n c A' n' c' g of ln cl jj zz bt y1 y2 6 (a.eval (.tmp 51)) W := haft 6 (op_at ho (fun o => o.after.any fun e => decide (e.on = 6) && Region.binds .any e) (x := true) (by kernel_rfl))
  refine ⟨fun j b h => (by rw [hgd] at h; cases h), ?_⟩
  have e6' : a.eval (.tmp 51) = .int .i64 (bt : Int) := e6
  exact specs_value (R := fun v W => cr16S p A n c A' n' c' g of ln cl jj zz bt y1 y2 7 v W) (v := .int .i64 ((zz ||| bt : Nat) : Int)) (by simp [execOp, hop, go_sem, ev e0, ev e6', hor]) rfl (Ext.refl W)
set_option maxRecDepth 100000 in
set_option maxHeartbeats 4000000 in
/-- Region 16 of function 42. -/
theorem cr16_wp {id : Nat} (hlen : a.tmps.size = 80) (o1 : a.eval (.tmp 1) = .slice (some ⟨g, of, none⟩) ln cl) (o2 : a.eval (.tmp 2) = .pointer (some ⟨p, 0, none⟩)) (o6 : a.eval (.tmp 6) = .int .i64 (zz : Int)) (o7 : a.eval (.tmp 7) = .int .i64 (jj : Int)) (q0 : ∀ W, Ext V W → W.cell? ⟨p, 0, none⟩ = some (.slice A n c)) (q1 : ∀ W, Ext V W → W.cell? ⟨p, 1, none⟩ = some (.slice A' n' c')) (hj : jj < ln) (c0 : ∀ W, Ext V W → W.cell? ⟨g, of + jj * 2, none⟩ = some (.int .i64 y1)) (c1 : ∀ W, Ext V W → W.cell? ⟨g, of + jj * 2 + 1, none⟩ = some (.int .i64 y2)) (hcall : ∀ W, Ext V W → Calls Try.prog 59 #[.agg #[.slice A n c, .slice A' n' c'], .agg #[.int .i64 y1, .int .i64 y2]] W fun e w' => e = .returned (.int .i64 (bt : Int)) ∧ Ext W w') (hor : bits .or .i64 (zz : Int) (bt : Int) = ((zz ||| bt : Nat) : Int)) (K : (∀ W v6, Ext V W → cr16S p A n c A' n' c' g of ln cl jj zz bt y1 y2 6 v6 W → wpList Try.prog cr16Reg Q (cr16Reg.toList.drop 8) (puts a [(45, .int .i64 (zz : Int)), (46, .agg #[.slice A n c, .slice A' n' c']), (47, .slice (some ⟨g, of, none⟩) ln cl), (48, .int .i64 (jj : Int)), (49, .pointer (some ⟨g, of + jj * 2, none⟩)), (50, .agg #[.int .i64 y1, .int .i64 y2]), (51, v6), (52, .int .i64 ((zz ||| bt : Nat) : Int))]) W)) : (Code.region id cr16Reg true).wp Try.prog Q a V := by
  refine wp_region_specs_sink (ops := cr16Reg) 8 (cr16S p A n c A' n' c' g of ln cl jj zz bt y1 y2) (Ext V) (by kernel_rfl) (by rw [hlen]; kernel_rfl) (by kernel_rfl) ⟨rfl, rfl, rfl, Nat.le_refl _, fun _ _ => rfl⟩ (fun _ _ h e => h.trans e) cr16S_ext cr16D (by kernel_rfl) ?_ ?_
  · intro i o hi ho a' W hB hsz hold haft
    match i, hi with
    | 0, _ => exact cr16_op0 ((hold 6 (by kernel_rfl)).trans o6) ho
    | 1, _ => exact cr16_op1 ((hold 2 (by kernel_rfl)).trans o2) q0 q1 hB ho
    | 2, _ => exact cr16_op2 ((hold 1 (by kernel_rfl)).trans o1) ho
    | 3, _ => exact cr16_op3 ((hold 7 (by kernel_rfl)).trans o7) ho
    | 4, _ => exact cr16_op4 hj haft ho
    | 5, _ => exact cr16_op5 c0 c1 hB haft ho
    | 6, _ => exact cr16_op6 hcall hB haft ho
    | 7, _ => exact cr16_op7 hor haft ho
    | m + 8, h => exact absurd h (by omega)
  · intro a1 W hB hsz hdf hold hS
    obtain ⟨v6, g6⟩ : ∃ v, v = a1.eval (.tmp 51) := ⟨_, rfl⟩
    have hall : ∀ z, z ∈ ([(45, .int .i64 (zz : Int)), (46, .agg #[.slice A n c, .slice A' n' c']), (47, .slice (some ⟨g, of, none⟩) ln cl), (48, .int .i64 (jj : Int)), (49, .pointer (some ⟨g, of + jj * 2, none⟩)), (50, .agg #[.int .i64 y1, .int .i64 y2]), (51, v6), (52, .int .i64 ((zz ||| bt : Nat) : Int))] : List (Tmp × Value)) → z.1 < a.tmps.size ∧ a1.eval (.tmp z.1) = z.2 := by
      intro z hz
      rw [hlen]
      simp only [List.mem_cons, List.not_mem_nil, or_false] at hz
      rcases hz with rfl | rfl | rfl | rfl | rfl | rfl | rfl | rfl
      · exact ⟨(show (45 : Nat) < 80 by omega), hS 0 (by omega)⟩
      · exact ⟨(show (46 : Nat) < 80 by omega), hS 1 (by omega)⟩
      · exact ⟨(show (47 : Nat) < 80 by omega), hS 2 (by omega)⟩
      · exact ⟨(show (48 : Nat) < 80 by omega), hS 3 (by omega)⟩
      · exact ⟨(show (49 : Nat) < 80 by omega), hS 4 (by omega)⟩
      · exact ⟨(show (50 : Nat) < 80 by omega), hS 5 (by omega)⟩
      · exact ⟨(show (51 : Nat) < 80 by omega), g6.symm⟩
      · exact ⟨(show (52 : Nat) < 80 by omega), hS 7 (by omega)⟩
    have ha := act_puts hsz hdf hall (fun t ht => hold t (all_ne_of (l := [(45, .int .i64 (zz : Int)), (46, .agg #[.slice A n c, .slice A' n' c']), (47, .slice (some ⟨g, of, none⟩) ln cl), (48, .int .i64 (jj : Int)), (49, .pointer (some ⟨g, of + jj * 2, none⟩)), (50, .agg #[.int .i64 y1, .int .i64 y2]), (51, v6), (52, .int .i64 ((zz ||| bt : Nat) : Int))]) (by kernel_rfl) ht))
    rw [ha]
    exact K W v6 hB (by rw [g6]; exact hS 6 (by omega))
end

theorem cr16_tail {a : Act} {W : World} {Q : Exit → Act → World → Prop} {r : Value} (e52 : a.eval (.tmp 52) = r) (K : Q .normal (a.put (some 6) r) W) : wpList Try.prog cr16Reg Q (cr16Reg.toList.drop 8) a W := by
  obtain ⟨o1, hdr, h1⟩ : ∃ o1, cr16Reg.toList.drop 8 = [o1] ∧ cr16Reg[8]? = some o1 := by
    have hs : cr16Reg.size = 9 := by kernel_rfl
    refine ⟨cr16Reg[8], ?_, by simp⟩
    rw [List.drop_eq_getElem_cons (by simp [hs]), List.drop_eq_nil_of_le (by simp [hs])]
    simp
  rw [hdr]
  have hop1 := op_at h1 (·.op) (x := Op.assign (Operand.tmp 52)) (by kernel_rfl)
  have hg1 := op_at h1 (·.guard) (x := none) (by kernel_rfl)
  have hd1 := op_at h1 (·.dst) (x := some 6) (by kernel_rfl)
  simp only [wpList]
  rw [if_pos (wanted_free hg1)]
  left
  have hr : (execOp a.eval o1).run Try.prog W = .ok (.value r) W := by simp [execOp, hop1, go_sem, ev e52]
  unfold Oper.wp
  rw [hr]
  show Q .normal (a.put o1.dst r) W
  rw [hd1]
  exact K
end Go.Proofs.Ytlaakmgdbhabfaa

/- CheckRows of the reference. -/
namespace Go.Proofs.Ytlaakmgdbhabfaa
open Go.RowKit Go.Shelf
attribute [local irreducible] bitCells fitCells Z94 fitOf

theorem filterMap_full {α β : Type} (f : α → Option β) : ∀ ys : List α, ys.length ≤ (ys.filterMap f).length ↔ ∀ y, y ∈ ys → f y ≠ none
  | [] => by simp
  | y :: ys => by
    have ih := filterMap_full f ys
    have hle := List.length_filterMap_le f ys
    rw [List.filterMap_cons]
    cases h : f y with
    | none =>
      simp only [List.length_cons]
      constructor
      · intro h2; omega
      · intro h2; exact absurd h (h2 y (by simp))
    | some x =>
      simp only [List.length_cons, Nat.succ_le_succ_iff, ih]
      constructor
      · intro h2 z hz
        rcases List.mem_cons.1 hz with rfl | hz
        · rw [h]; simp
        · exact h2 z hz
      · intro h2 z hz; exact h2 z (by simp [hz])
/-- A row, by its comb and its place. -/
def rwOf (y : Int × Int) : Rw := (y.1.toNat, y.2)
theorem strange_iff (n : Nat) (y : Int × Int) : strange n y = false ↔ 0 ≤ y.1 ∧ y.1 < (n : Int) := by
  unfold strange
  simp
theorem fitFor_rw {cs ms : List (Int × Int)} (h0 : sheetErr cs ms = 0) {y : Int × Int} (hy : strange cs.length y = false) : fitFor cs ms y = if bitsOf cs ms y.1.toNat y.2 = 0 then none else some (rwOf y) := by
  obtain ⟨h1, h2⟩ := (strange_iff _ _).1 hy
  have := fitFor_eq h0 (k := y.1.toNat) (by omega) y.2
  rw [show ((y.1.toNat : Int), y.2) = y from Prod.ext (by simp; omega) rfl] at this
  exact this
theorem fitting_rw {cs ms : List (Int × Int)} (h0 : sheetErr cs ms = 0) : ∀ {ys : List (Int × Int)}, (∀ y, y ∈ ys → strange cs.length y = false ∧ bitsOf cs ms y.1.toNat y.2 ≠ 0) → fittingOf cs ms ys = ys.map rwOf
  | [], _ => rfl
  | y :: ys, h => by
    have ih := fitting_rw h0 (ys := ys) (fun z hz => h z (by simp [hz]))
    obtain ⟨h1, h2⟩ := h y (by simp)
    unfold fittingOf at ih ⊢
    rw [List.filterMap_cons, fitFor_rw h0 h1, if_neg h2, ih]
    rfl
theorem fitting_full {cs ms : List (Int × Int)} (h0 : sheetErr cs ms = 0) {ys : List (Int × Int)} (hs : ∀ y, y ∈ ys → strange cs.length y = false) : ys.length ≤ (fittingOf cs ms ys).length ↔ ∀ y, y ∈ ys → bitsOf cs ms y.1.toNat y.2 ≠ 0 := by
  unfold fittingOf
  rw [filterMap_full]
  constructor
  · intro h y hy hb
    exact h y hy (by rw [fitFor_rw h0 (hs y hy), if_pos hb])
  · intro h y hy
    rw [fitFor_rw h0 (hs y hy), if_neg (h y hy)]
    simp
theorem nums_none (p : Nat → Bool) (n : Nat) : (numsTo p n).length = 0 ↔ ∀ i, i < n → p i = false := by
  rw [List.length_eq_zero_iff, List.eq_nil_iff_forall_not_mem]
  constructor
  · intro h i hi
    refine Bool.eq_false_iff.2 fun hp => h (i : Int) ((mem_nums _ _ _).2 ⟨i, hi, hp, rfl⟩)
  · intro h x hx
    obtain ⟨i, hi, hp, _⟩ := (mem_nums _ _ _).1 hx
    rw [h i hi] at hp
    cases hp
/-- Rows have all marks just if their bits are all ones. -/
theorem all_had {cs ms : List (Int × Int)} (h12 : ms.length ≤ 12) (l : List Rw) : (numsTo (noneHas cs ms l) ms.length).length = 0 ↔ orNos cs ms l + 1 = 2 ^ ms.length := by
  rw [nums_none]
  have hb : ∀ i, i < ms.length → noneHas cs ms l i = !(orNos cs ms l).testBit i := fun i hi => by
    rw [or_bit]
    unfold noneHas
    rw [List.not_any_eq_all_not]
    congr 1
    funext x
    unfold noOf
    rw [setNo_bit, decide_eq_true (show i < 12 by omega), Bool.true_and]
  have hlt := or_lt cs ms l
  constructor
  · intro h
    have : orNos cs ms l = 2 ^ ms.length - 1 := by
      apply Nat.eq_of_testBit_eq
      intro i
      rw [Nat.testBit_two_pow_sub_one]
      by_cases hi : i < ms.length
      · have := h i hi
        rw [hb i hi] at this
        simpa [hi] using this
      · rw [decide_eq_false hi]
        exact Nat.testBit_lt_two_pow (Nat.lt_of_lt_of_le hlt (Nat.pow_le_pow_right (by decide) (by omega)))
    omega
  · intro h i hi
    rw [hb i hi]
    have : orNos cs ms l = 2 ^ ms.length - 1 := by omega
    rw [this, Nat.testBit_two_pow_sub_one, decide_eq_true hi]
    rfl

set_option maxRecDepth 100000 in
set_option maxHeartbeats 8000000 in
theorem refCheck_any {A : Option Addr} {n c : Nat} {A' : Option Addr} {n' c' : Nat} {cs ms : List (Int × Int)} {w : World} (hb : IsSheet w w.heap.size A n c A' n' c' cs ms)
    (A3 : Option Addr) (m c3 : Nat) (ys : List (Int × Int)) (hm : m = ys.length) (hm9 : m ≤ 9223372036854775807) (hh : Held w w.heap.size 2 encS A3 ys) :
    Calls Try.prog 42 #[.agg #[.slice A n c, .slice A' n' c'], .slice A3 m c3] w fun e w' => e = .returned (.int .i64 (rowsErr cs ms ys)) ∧ Ext w w' := by
  have hX0 := SheetAt.new hb
  have hE0 : Ext w (w.alloc (.cells #[.slice A n c, .slice A' n' c'] 25)) := ext_alloc w _
  have HN := Lib.hid (And.intro hb.ncs (And.intro hb.nms hm))
  have hHW := fun (W : World) (h : Ext w W) => ((hh.kept h (Nat.le_refl _)).wider h.size : Held W W.heap.size 2 encS A3 ys)
  have HHW := Lib.hid hHW
  obtain ⟨ans, hans⟩ : ∃ ans, rowsErr cs ms ys = ans := ⟨_, rfl⟩
  rw [hans]
  unfold rowsErr at hans
  have HA := Lib.hid hans
  clear hb hm hh hans hHW
  go_enter Try.func42, Try.ntmps42
  go_upto_region 1 with fail
  obtain ⟨w0, hw0⟩ : ∃ w0, w.alloc (.cells #[.slice A n c, .slice A' n' c'] 25) = w0 := ⟨_, rfl⟩
  rw [hw0] at hX0 hE0 ⊢
  obtain ⟨p, hp⟩ : ∃ p, w.heap.size = p := ⟨_, rfl⟩
  have HE0 := Lib.hid hE0
  have h24 := refSheet_any hX0.sheet
  rw [hp] at hX0 ⊢
  have HX0 := Lib.hid hX0
  obtain ⟨q0, q1⟩ := hX0.cells
  clear hw0 hE0 hp hX0
  go_wp2_with (fail)
  refine h24.mono ?_
  rintro e w1 ⟨rfl, e1⟩
  have hX1 := HX0.out.ext e1
  have HX1 := Lib.hid hX1
  have HE1 := Lib.hid (HE0.out.trans e1)
  clear q0 q1 h24 e1 HX0
  obtain ⟨q0, q1⟩ := hX1.cells
  have h24 := refSheet_any hX1.sheet
  clear hX1
  by_cases h0 : sheetErr cs ms = 0
  · rw [h0]
    have ha := HA.out
    rw [if_pos h0] at ha
    have H0 := Lib.hid h0
    clear h24 h0 HA
    by_cases hm20 : ys.length ≤ 20
    · rw [if_pos hm20] at ha
      have HA1 := Lib.hid ha
      have hmz : ¬ (20 : Int) < (m : Int) := by have := HN.out; omega
      clear ha
      go_wp2_with (fail)
      go_loopw [5] (fun i wr => ∃ j : Nat, j ≤ m ∧ i = .int .i64 j ∧ Hid (Ext w1 wr) ∧ Hid (∀ y, y ∈ ys.take j → strange cs.length y = false)) (fun i _ => m - (intOf i).toNat)
      case atStart => exact ⟨0, Nat.zero_le _, rfl, Lib.hid (Ext.refl _), Lib.hid (fun y hy => by simp at hy)⟩
      case round =>
        obtain ⟨j, hj, rfl, hE, hS⟩ := hrel
        clear q0 q1
        by_cases hjl : j < m
        · have hjz : (j : Int) < (m : Int) := by omega
          have hjy : j < ys.length := by have := HN.out; omega
          obtain ⟨b, off, rfl, hbl, d0, d1⟩ := held_pair (HHW.out _ (HE1.out.trans hE.out)) hjy
          have hgd : ys.getD j (0, 0) = ys[j] := by simp [hjy]
          rw [hgd] at d0 d1
          have hX3 := HX1.out.ext hE.out
          have htk : ys.take (j + 1) = ys.take j ++ [ys[j]] := List.take_succ_eq_append_getElem hjy
          obtain ⟨y1, y2, hy⟩ : ∃ y1 y2, ys[j] = (y1, y2) := ⟨_, _, rfl⟩
          have hymem : (y1, y2) ∈ ys := by rw [← hy]; exact List.getElem_mem hjy
          rw [hy] at d0 d1 htk
          dsimp only at d0 d1
          have h58 := fun (W : World) (_ : Ext wr W) => isComb_any (A := A) (n := n) (c := c) (A' := A') (n' := n') (c' := c') y1 W
          have hst : strange n (y1, 0) = strange cs.length (y1, y2) := by rw [HN.out.1]; rfl
          rw [hst] at h58
          obtain ⟨bo, hbo⟩ : ∃ bo, strange cs.length (y1, y2) = bo := ⟨_, rfl⟩
          rw [hbo] at h58
          have HTK := Lib.hid htk
          have HBO := Lib.hid hbo
          have HYM := Lib.hid hymem
          clear hgd hy hst hbo htk hymem
          go_upto_region 8 with fail
          refine cr8_wp (p := p) (A := A) (n := n) (c := c) (A' := A') (n' := n') (c' := c') (g := b) (of := off) (ln := m) (cl := c3) (jj := j) (y1 := y1) (bo := !bo) rfl rfl rfl rfl
            (fun W hW => (hX3.ext hW).cells.1) (fun W hW => (hX3.ext hW).cells.2) hjl (fun W hW => (hW.cell (p := ⟨b, off + j * 2, none⟩) hbl).trans d0) (fun W hW => h58 W hW) ?_
          intro W v6 hW h6
          have h6' : v6 = .bool (!bo) := h6
          subst h6'
          have HW := Lib.hid (hE.out.trans hW)
          have HW9 := Lib.hid (HE1.out.trans (hE.out.trans hW))
          have hdr : cr8Reg.toList.drop 8 = [] := List.drop_eq_nil_of_le (by rw [Array.length_toList]; exact Nat.le_of_eq (by kernel_rfl))
          rw [hdr]
          simp only [wpList, puts, List.foldl_cons, List.foldl_nil, Act.put, List.setIfInBounds_toArray, List.set_cons_succ, List.set_cons_zero, Bool.not_not]
          clear hX3 h58 hW h6 d0 d1 hE hdr
          cases bo with
          | true =>
            have ha : ans = 2 := by
              have := HA1.out
              rw [if_neg] at this
              · exact this.symm
              · intro h
                rw [List.all_eq_true] at h
                have := h _ HYM.out
                rw [HBO.out] at this
                cases this
            subst ha
            go_wp2
            go_ret
            exact ⟨rfl, HW9.out⟩
          | false =>
            go_wp2
            go_roundw
            case measure => simp [intOf]; omega
            case rel =>
              refine ⟨j + 1, by omega, by go_num, HW, Lib.hid fun y hy => ?_⟩
              rw [HTK.out] at hy
              rcases List.mem_append.1 hy with hy | hy
              · exact hS.out y hy
              · rw [List.mem_singleton.1 hy]; exact HBO.out
        · have hjz : ¬ (j : Int) < (m : Int) := by omega
          obtain rfl : j = m := by omega
          have hS2 := hS.out
          rw [List.take_of_length_le (by have := HN.out; omega)] at hS2
          have ha := HA1.out
          rw [if_pos (by rw [List.all_eq_true]; intro y hy; rw [hS2 y hy]; rfl)] at ha
          have HA2 := Lib.hid ha
          have HS2 := Lib.hid hS2
          have HE2 := Lib.hid (HE1.out.trans hE.out)
          have HX2 := Lib.hid (HX1.out.ext hE.out)
          clear ha hS2 hS HA1 hE HX1
          go_wp2_with (fail)
          go_loopw [6, 7] (fun a i wr2 => ∃ q : Nat, q ≤ j ∧ i = .int .i64 q ∧ a = .int .i64 ((orNos cs ms ((ys.take q).map rwOf) : Nat) : Int) ∧ Hid (Ext wr wr2) ∧ Hid (∀ y, y ∈ ys.take q → bitsOf cs ms y.1.toNat y.2 ≠ 0)) (fun _ i _ => j - (intOf i).toNat)
          case atStart => exact ⟨0, Nat.zero_le _, rfl, rfl, Lib.hid (Ext.refl _), Lib.hid (fun y hy => by simp at hy)⟩
          case round =>
            obtain ⟨q, hq, rfl, rfl, hE, hS⟩ := hrel
            by_cases hjl : q < j
            · have hjz2 : (q : Int) < (j : Int) := by omega
              have hjy : q < ys.length := by have := HN.out; omega
              obtain ⟨b, off, rfl, hbl_blk, d0, d1⟩ := held_pair (HHW.out _ (HE2.out.trans hE.out)) hjy
              have hgd : ys.getD q (0, 0) = ys[q] := by simp [hjy]
              rw [hgd] at d0 d1
              have hX3 := HX2.out.ext hE.out
              have htk : ys.take (q + 1) = ys.take q ++ [ys[q]] := List.take_succ_eq_append_getElem hjy
              have hmem : ys[q] ∈ ys := List.getElem_mem hjy
              obtain ⟨y1, y2, hy⟩ : ∃ y1 y2, ys[q] = (y1, y2) := ⟨_, _, rfl⟩
              rw [hy] at d0 d1 htk hmem
              dsimp only at d0 d1
              obtain ⟨s1, s2⟩ := (strange_iff _ _).1 (HS2.out _ hmem)
              dsimp only at s1 s2
              obtain ⟨k, rfl⟩ : ∃ k : Nat, y1 = (k : Int) := ⟨y1.toNat, by omega⟩
              have hk : k < cs.length := by omega
              have h59 := fun (W : World) (hW : Ext wr W) => bits_any ((hX3.ext hW).sheet) H0.out k hk y2
              have hbl : bitsOf cs ms k y2 < 4096 := by
                by_cases hb0 : bitsOf cs ms k y2 = 0
                · omega
                · rw [bits_no (sheet_ok H0.out).1.2.2 ((fit_iff (sheet_ok H0.out).1.2.2 k y2).1 hb0).1]
                  exact setNo_lt _
              have hno : bitsOf cs ms k y2 ≠ 0 → noOf cs ms (k, y2) = bitsOf cs ms k y2 := fun hb0 => (bits_no (sheet_ok H0.out).1.2.2 ((fit_iff (sheet_ok H0.out).1.2.2 k y2).1 hb0).1).symm
              have hor4 : orNos cs ms ((ys.take q).map rwOf) < 4096 := Nat.lt_of_lt_of_le (or_lt cs ms _) (Nat.pow_le_pow_right (by decide) (sheet_ok H0.out).1.2.2 : 2 ^ ms.length ≤ 2 ^ 12)
              have hsu : orNos cs ms ((ys.take (q + 1)).map rwOf) = orNos cs ms ((ys.take q).map rwOf) ||| noOf cs ms (k, y2) := by
                rw [htk, List.map_append, List.map_cons, List.map_nil, or_snoc]
                rfl
              obtain ⟨bt, hbt⟩ : ∃ bt, bitsOf cs ms k y2 = bt := ⟨_, rfl⟩
              obtain ⟨z, hz⟩ : ∃ z, orNos cs ms ((ys.take q).map rwOf) = z := ⟨_, rfl⟩
              rw [hbt] at hbl hno
              simp only [hbt] at h59
              rw [hz] at hor4 hsu ⊢
              have HTK := Lib.hid htk
              have HBT := Lib.hid hbt
              have HMEM := Lib.hid hmem
              have HSU := Lib.hid hsu
              have HNO := Lib.hid hno
              have H59 := Lib.hid h59
              have hor := bits_or z bt (by omega) (by omega)
              have HOR := Lib.hid hor
              obtain ⟨bz, hbz⟩ : ∃ bz, ((bt : Int) == 0) = bz := ⟨_, rfl⟩
              have HBZ := Lib.hid hbz
              clear hgd hy htk hbt hz hmem hsu hno h59 hor s1 s2 hbz
              go_upto_region 14 with fail
              refine cr14_wp (p := p) (A := A) (n := n) (c := c) (A' := A') (n' := n') (c' := c') (g := b) (of := off) (ln := j) (cl := c3) (jj := q) (y1 := (k : Int)) (y2 := y2) (bt := bt) (bz := bz) rfl rfl rfl rfl
                (fun W hW => (hX3.ext hW).cells.1) (fun W hW => (hX3.ext hW).cells.2) hjl (fun W hW => (hW.cell (p := ⟨b, off + q * 2, none⟩) hbl_blk).trans d0) (fun W hW => (hW.cell (p := ⟨b, off + q * 2 + 1, none⟩) hbl_blk).trans d1) (fun W hW => H59.out W hW) HBZ.out ?_
              intro W v6 hW h6
              have hdr : cr14Reg.toList.drop 7 = [] := List.drop_eq_nil_of_le (by rw [Array.length_toList]; exact Nat.le_of_eq (by kernel_rfl))
              rw [hdr]
              have h6' : v6 = .int .i64 (bt : Int) := h6
              subst h6'
              simp only [wpList, puts, List.foldl_cons, List.foldl_nil, Act.put, List.setIfInBounds_toArray, List.set_cons_succ, List.set_cons_zero]
              have HW := Lib.hid (hE.out.trans hW)
              have HW9 := Lib.hid (HE2.out.trans (hE.out.trans hW))
              have hX4 := hX3.ext hW
              have d0' := (hW.cell (p := ⟨b, off + q * 2, none⟩) hbl_blk).trans d0
              have d1' := (hW.cell (p := ⟨b, off + q * 2 + 1, none⟩) hbl_blk).trans d1
              have hbw : b < W.heap.size := Nat.lt_of_lt_of_le hbl_blk hW.size
              have h59w := fun (V : World) (hV : Ext W V) => H59.out V (hW.trans hV)
              have H59W := Lib.hid h59w
              clear hdr h6 hX3 d0 d1 hE h59w
              by_cases hb0 : bt = 0
              · obtain rfl : bz = true := by rw [← HBZ.out, hb0]; rfl
                have ha : ans = 19 := by
                  have := HA2.out
                  rw [if_neg] at this
                  · exact this.symm
                  · intro h
                    have := (fitting_full H0.out HS2.out).1 h _ HMEM.out
                    dsimp only at this
                    rw [Int.toNat_natCast, HBT.out] at this
                    exact this hb0
                subst ha
                clear hX4 d0' d1' hW
                go_wp2
                go_ret
                exact ⟨rfl, HW9.out⟩
              · obtain rfl : bz = false := by rw [← HBZ.out]; simpa using hb0
                go_upto_region 16 with fail
                refine cr16_wp (p := p) (A := A) (n := n) (c := c) (A' := A') (n' := n') (c' := c') (g := b) (of := off) (ln := j) (cl := c3) (jj := q) (zz := z) (y1 := (k : Int)) (y2 := y2) (bt := bt) rfl rfl rfl rfl rfl
                  (fun V hV => (hX4.ext hV).cells.1) (fun V hV => (hX4.ext hV).cells.2) hjl (fun V hV => (hV.cell (p := ⟨b, off + q * 2, none⟩) hbw).trans d0') (fun V hV => (hV.cell (p := ⟨b, off + q * 2 + 1, none⟩) hbw).trans d1') (fun V hV => H59W.out V hV) HOR.out ?_
                intro V v6 hV h6
                simp only [puts, List.foldl_cons, List.foldl_nil, Act.put, List.setIfInBounds_toArray, List.set_cons_succ, List.set_cons_zero]
                refine cr16_tail (r := .int .i64 ((z ||| bt : Nat) : Int)) rfl ?_
                have HV := Lib.hid (HW.out.trans hV)
                simp only [Act.put, List.setIfInBounds_toArray, List.set_cons_succ, List.set_cons_zero]
                clear hX4 hV h6 d0' d1' hW
                go_wp2
                go_roundw
                case measure => simp [intOf]; omega
                case rel =>
                  refine ⟨q + 1, by omega, by go_num, by rw [HSU.out, HNO.out hb0], HV, Lib.hid fun y hy => ?_⟩
                  rw [HTK.out] at hy
                  rcases List.mem_append.1 hy with hy | hy
                  · exact hS.out y hy
                  · rw [List.mem_singleton.1 hy]
                    dsimp only
                    rw [Int.toNat_natCast, HBT.out]
                    exact hb0
            · have hjz2 : ¬ (q : Int) < (j : Int) := by omega
              obtain rfl : q = j := by omega
              have hS3 := hS.out
              have hle : ys.length ≤ q := by have := HN.out; omega
              rw [List.take_of_length_le hle] at hS3 ⊢
              have ha := HA2.out
              rw [if_pos ((fitting_full H0.out HS2.out).2 hS3), fitting_rw H0.out (fun y hy => ⟨HS2.out y hy, hS3 y hy⟩)] at ha
              have h12 := (sheet_ok H0.out).1.2.2
              have hah := all_had (cs := cs) h12 (ys.map rwOf)
              have hol := or_lt cs ms (ys.map rwOf)
              rw [← HN.out.2.1] at hah hol h12
              rw [← HN.out.2.1] at ha
              obtain ⟨z, hz⟩ : ∃ z, orNos cs ms (ys.map rwOf) = z := ⟨_, rfl⟩
              rw [hz] at hah hol ⊢
              have HA3 := Lib.hid ha
              have HAH := Lib.hid hah
              have HE3 := Lib.hid (HE2.out.trans hE.out)
              have HX3 := Lib.hid (HX2.out.ext hE.out)
              clear ha hah hz hS3 hS hE HX2 HA2 HS2
              go_wp2_with (fail)
              go_loopw [8] (fun i wr2 => ∃ t : Nat, t ≤ q ∧ i = .int .i64 t ∧ Hid (Ext wr wr2) ∧ Hid (∀ a b, a < b → b < t → ys.getD a (0, 0) ≠ ys.getD b (0, 0))) (fun i _ => q - (intOf i).toNat)
              case atStart => exact ⟨0, Nat.zero_le _, rfl, Lib.hid (Ext.refl _), Lib.hid (fun a b _ hb => absurd hb (Nat.not_lt_zero _))⟩
              case round =>
                obtain ⟨t, ht, rfl, hE, hD⟩ := hrel
                by_cases htl : t < q
                · have htz : (t : Int) < (q : Int) := by omega
                  have HEE := Lib.hid (HE3.out.trans hE.out)
                  go_wp2_with (fail)
                  go_loopw [9] (fun i wr2 => ∃ s : Nat, s ≤ t ∧ i = .int .i64 s ∧ Hid (Ext wr wr2) ∧ Hid (∀ a, a < s → ys.getD a (0, 0) ≠ ys.getD t (0, 0))) (fun i _ => t - (intOf i).toNat)
                  case atStart => exact ⟨0, Nat.zero_le _, rfl, Lib.hid (Ext.refl _), Lib.hid (fun a ha => absurd ha (Nat.not_lt_zero _))⟩
                  case round =>
                    obtain ⟨s, hs, rfl, hE5, hD5⟩ := hrel
                    by_cases hsl : s < t
                    · have hsz : (s : Int) < (t : Int) := by omega
                      have hsq : (s : Int) < (q : Int) := by omega
                      have hty : t < ys.length := by have := HN.out; omega
                      have hsy : s < ys.length := by omega
                      obtain ⟨b, off, rfl, hbl_blk, d0, d1⟩ := held_pair (HHW.out _ (HEE.out.trans hE5.out)) hty
                      obtain ⟨b', off', hA, hbl', f0, f1⟩ := held_pair (HHW.out _ (HEE.out.trans hE5.out)) hsy
                      cases hA
                      obtain ⟨x1, x2, hx⟩ : ∃ x1 x2, ys.getD t (0, 0) = (x1, x2) := ⟨_, _, rfl⟩
                      obtain ⟨z1, z2, hz⟩ : ∃ z1 z2, ys.getD s (0, 0) = (z1, z2) := ⟨_, _, rfl⟩
                      rw [hx] at d0 d1
                      rw [hz] at f0 f1
                      dsimp only at d0 d1 f0 f1
                      have HXT := Lib.hid hx
                      have HZS := Lib.hid hz
                      clear hx hz
                      by_cases e1 : x1 = z1
                      · by_cases e2 : x2 = z2
                        · subst e1 e2
                          have ha : ans = 15 := by
                            have := HA3.out
                            rw [if_neg] at this
                            · exact this.symm
                            · intro hnd
                              have h9 := List.pairwise_iff_getElem.1 hnd s t hsy hty hsl
                              have g1 : ys.getD t (0, 0) = ys[t] := by simp [hty]
                              have g2 : ys.getD s (0, 0) = ys[s] := by simp [hsy]
                              rw [← g1, ← g2, HXT.out, HZS.out] at h9
                              exact h9 rfl
                          subst ha
                          go_upto_region 23 with fail
                          go_quiet (fail)
                          go_wp2
                          go_ret
                          exact ⟨rfl, bdrewN (HEE.out.trans hE5.out) _⟩
                        · have hne : (x2 == z2) = false := by simpa using e2
                          subst e1
                          go_upto_region 23 with fail
                          go_quiet (fail)
                          go_wp2
                          go_roundw
                          case measure => simp [intOf]; omega
                          case rel =>
                            refine ⟨s + 1, by omega, by go_num, Lib.hid (bdrewN hE5.out _), Lib.hid fun a ha => ?_⟩
                            by_cases hay : a = s
                            · rw [hay, HXT.out, HZS.out]; simpa using Ne.symm e2
                            · exact hD5.out a (by omega)
                      · have hne : (x1 == z1) = false := by simpa using e1
                        go_upto_region 23 with fail
                        go_quiet (fail)
                        go_wp2
                        go_roundw
                        case measure => simp [intOf]; omega
                        case rel =>
                          refine ⟨s + 1, by omega, by go_num, Lib.hid (bdrewN hE5.out _), Lib.hid fun a ha => ?_⟩
                          by_cases hay : a = s
                          · rw [hay, HXT.out, HZS.out]
                            intro e
                            cases e
                            exact e1 rfl
                          · exact hD5.out a (by omega)
                    · have hsz : ¬ (s : Int) < (t : Int) := by omega
                      obtain rfl : s = t := by omega
                      have HEN := Lib.hid (hE.out.trans hE5.out)
                      go_wp2
                      go_roundw
                      case measure => simp [intOf]; omega
                      case rel =>
                        refine ⟨s + 1, by omega, by go_num, HEN, Lib.hid fun a b hab hb => ?_⟩
                        by_cases hbs : b = s
                        · rw [hbs]; exact hD5.out a (by omega)
                        · exact hD.out a b hab (by omega)
                · have htz : ¬ (t : Int) < (q : Int) := by omega
                  obtain rfl : t = q := by omega
                  have hX4 := HX3.out.ext hE.out
                  obtain ⟨q0, q1⟩ := hX4.cells
                  have hnd : ys.Nodup := List.pairwise_iff_getElem.2 fun a b ha hb hab => by
                    have := hD.out a b hab (by omega)
                    have g1 : ys.getD a (0, 0) = ys[a] := by simp [ha]
                    have g2 : ys.getD b (0, 0) = ys[b] := by simp [hb]
                    rw [g1, g2] at this
                    exact this
                  have ha := HA3.out
                  rw [if_pos hnd] at ha
                  have HE9 := Lib.hid (HE3.out.trans hE.out)
                  have hT := wrap_pow n' h12
                  have hT2 : ((2 : Int) ^ n') = ((2 ^ n' : Nat) : Int) := by simp
                  have hT4 : 2 ^ n' ≤ 4096 := (Nat.pow_le_pow_right (by decide) h12 : 2 ^ n' ≤ 2 ^ 12)
                  have hT1 : 1 ≤ 2 ^ n' := Nat.one_le_two_pow
                  have hah := HAH.out
                  obtain ⟨T, hTe⟩ : ∃ T, 2 ^ n' = T := ⟨_, rfl⟩
                  rw [hTe] at hT hT2 hT4 hT1 hah hol
                  obtain ⟨U, rfl⟩ : ∃ U, T = U + 1 := ⟨T - 1, by omega⟩
                  clear hnd hX4 hE hTe HAH
                  by_cases hfin : z = U
                  · rw [if_pos (hah.2 (by omega))] at ha
                    subst ha hfin
                    clear hah
                    go_wp2
                    go_ret
                    exact ⟨rfl, HE9.out⟩
                  · rw [if_neg (fun h => hfin (by have := hah.1 h; omega))] at ha
                    subst ha
                    have hnz : ((z : Int) != (U : Int)) = true := by simp; omega
                    have hnz2 : ((z : Int) == (U : Int)) = false := by simp; omega
                    clear hah hfin
                    go_wp2
                    go_ret
                    exact ⟨rfl, HE9.out⟩
    · rw [if_neg hm20] at ha
      subst ha
      have hmz : (20 : Int) < (m : Int) := by have := HN.out; omega
      clear hm20
      go_wp2
      go_ret
      exact ⟨rfl, HE1.out⟩
  · have hr := HA.out
    rw [if_neg h0] at hr
    obtain ⟨r, hre⟩ : ∃ r, sheetErr cs ms = r := ⟨_, rfl⟩
    rw [hre] at h0 hr h24 ⊢
    subst hr
    have hne : (r == 0) = false := by simpa using h0
    have hne2 : (r != 0) = true := by simpa using h0
    clear h0 hre HA
    go_wp2_with (fail)
    refine h24.mono ?_
    rintro e w2 ⟨rfl, e2⟩
    have HE2 := Lib.hid (HE1.out.trans e2)
    clear e2 h24
    go_wp2
    go_ret
    exact ⟨rfl, HE2.out⟩
end Go.Proofs.Ytlaakmgdbhabfaa

/- The sheet of the chapter's examples. -/
namespace Go.Proofs.Ytlaakmgdbhabfaa
open Go.RowKit Go.Shelf
attribute [local irreducible] bitCells fitCells Z94 fitOf

abbrev SC : List (Int × Int) := [(10, 3), (15, 2)]
abbrev SM : List (Int × Int) := [(5, 6), (15, 15), (20, 22), (25, 26), (35, 37)]
abbrev scCells : Array Value := #[.int .i64 10, .int .i64 3, .int .i64 15, .int .i64 2]
abbrev smCells : Array Value := #[.int .i64 5, .int .i64 6, .int .i64 15, .int .i64 15, .int .i64 20, .int .i64 22, .int .i64 25, .int .i64 26, .int .i64 35, .int .i64 37]

set_option maxRecDepth 100000 in
set_option maxHeartbeats 2000000 in
theorem sheet_any (w : World) : Calls Try.prog 52 #[] w fun e w' => ∃ g h, e = .returned (.agg #[.slice (some ⟨g, 0, none⟩) 2 2, .slice (some ⟨h, 0, none⟩) 5 5]) ∧ Ext w w' ∧ w.heap.size ≤ g ∧ w.heap.size ≤ h ∧
    w'.heap[g]? = some (.cells scCells 65 (0, 0)) ∧ w'.heap[h]? = some (.cells smCells 75 (0, 0)) := by
  go_enter Try.func52, Try.ntmps52
  go_upto_region 1 with fail
  have hr0 : (w.alloc (.cells #[.slice none 0 0, .slice none 0 0] 25)).heap[w.heap.size]? = some (.cells #[.slice none 0 0, .slice none 0 0] 25 (0, 0)) := row_last _ _ _ rfl
  have e0 : Ext w (w.alloc (.cells #[.slice none 0 0, .slice none 0 0] 25)) := ext_alloc _ _
  obtain ⟨w0, hw0⟩ : ∃ w0, w.alloc (.cells #[.slice none 0 0, .slice none 0 0] 25) = w0 := ⟨_, rfl⟩
  rw [hw0] at hr0 e0 ⊢
  have h1 := comb_any 10 3 w0
  clear hw0
  go_wp2_with (fail)
  refine h1.mono ?_
  rintro e w1 ⟨rfl, e1⟩
  have h2 := comb_any 15 2 w1
  clear h1
  go_wp2_with (fail)
  refine h2.mono ?_
  rintro e w2 ⟨rfl, e2⟩
  have h3 := rg_any 5 6 (w2.alloc (.cells scCells 65))
  have r2 : (w2.alloc (.cells scCells 65)).heap[w2.heap.size]? = some (.cells scCells 65 (0, 0)) := row_last _ _ _ rfl
  have e02 := (e1.trans e2).trans (ext_alloc w2 (.cells scCells 65))
  have s2 : w0.heap.size ≤ w2.heap.size := (e1.trans e2).size
  clear h2 e1 e2
  go_wp2_with (fail)
  refine h3.mono ?_
  rintro e w3 ⟨rfl, e3⟩
  have h4 := rg_any 15 15 w3
  clear h3
  go_wp2_with (fail)
  refine h4.mono ?_
  rintro e w4 ⟨rfl, e4⟩
  have h5 := rg_any 20 22 w4
  clear h4
  go_wp2_with (fail)
  refine h5.mono ?_
  rintro e w5 ⟨rfl, e5⟩
  have h6 := rg_any 25 26 w5
  clear h5
  go_wp2_with (fail)
  refine h6.mono ?_
  rintro e w6 ⟨rfl, e6⟩
  have h7 := rg_any 35 37 w6
  clear h6
  go_wp2_with (fail)
  refine h7.mono ?_
  rintro e w7 ⟨rfl, e7⟩
  have e37 := (((e3.trans e4).trans e5).trans e6).trans e7
  have e78 := ext_alloc w7 (.cells smCells 75)
  have r7 : (w7.alloc (.cells smCells 75)).heap[w7.heap.size]? = some (.cells smCells 75 (0, 0)) := row_last _ _ _ rfl
  have r2' := row_ext (row_ext r2 e37) e78
  have r0' := row_ext (row_ext (row_ext hr0 e02) e37) e78
  have s7 : w2.heap.size < w7.heap.size := by have := e37.size; simp at this; omega
  have hw : w.heap.size < w0.heap.size := (Array.getElem?_eq_some_iff.1 hr0).1
  have hE : Ext w0 (w7.alloc (.cells smCells 75)) := (e02.trans e37).trans e78
  clear h7 e3 e4 e5 e6 e7 e37 e02 e78 r2 hr0
  obtain ⟨w8, hw8⟩ : ∃ w8, w7.alloc (.cells smCells 75) = w8 := ⟨_, rfl⟩
  have c0 : w8.cell? ⟨w.heap.size, 0, none⟩ = some (.slice none 0 0) := by rw [← hw8]; exact cell_of_row _ _ _ _ _ _ r0'
  have c1 : w8.cell? ⟨w.heap.size, 1, none⟩ = some (.slice none 0 0) := by rw [← hw8]; exact cell_of_row _ _ _ _ _ _ r0'
  have f0 : w8.frozen? ⟨w.heap.size, 0, none⟩ = false := by rw [← hw8]; simp [World.frozen?, r0']
  have f1 : w8.frozen? ⟨w.heap.size, 1, none⟩ = false := by rw [← hw8]; simp [World.frozen?, r0']
  rw [hw8] at r7 r2' r0' hE
  obtain ⟨p, hp⟩ : ∃ p, w.heap.size = p := ⟨_, rfl⟩
  have HW8 := Lib.hid hw8
  have HP := Lib.hid hp
  rw [hp] at c0 c1 f0 f1 r0' hw ⊢
  obtain ⟨g, hg⟩ : ∃ g, w2.heap.size = g := ⟨_, rfl⟩
  obtain ⟨h, hh⟩ : ∃ h, w7.heap.size = h := ⟨_, rfl⟩
  have s72 : h < w8.heap.size := by rw [← hw8]; simp; omega
  have HG := Lib.hid hg
  have HH := Lib.hid hh
  rw [hg] at r2' s2 s7
  rw [hh] at r7 s7
  have hrow : ((w8.setCell ⟨p, 0, none⟩ (.slice (some ⟨g, 0, none⟩) 2 2)).setCell ⟨p, 1, none⟩ (.slice (some ⟨h, 0, none⟩) 5 5)).heap[p]? = some (.cells #[.slice (some ⟨g, 0, none⟩) 2 2, .slice (some ⟨h, 0, none⟩) 5 5] 25 (0, 0)) := row_setCell _ _ _ _ _ _ _ (row_setCell _ _ _ _ _ _ _ r0')
  have hgr : ((w8.setCell ⟨p, 0, none⟩ (.slice (some ⟨g, 0, none⟩) 2 2)).setCell ⟨p, 1, none⟩ (.slice (some ⟨h, 0, none⟩) 5 5)).heap[g]? = some (.cells scCells 65 (0, 0)) := by rw [heap_set_other _ _ _ _ _ (by omega), heap_set_other _ _ _ _ _ (by omega)]; exact r2'
  have hhr : ((w8.setCell ⟨p, 0, none⟩ (.slice (some ⟨g, 0, none⟩) 2 2)).setCell ⟨p, 1, none⟩ (.slice (some ⟨h, 0, none⟩) 5 5)).heap[h]? = some (.cells smCells 75 (0, 0)) := by rw [heap_set_other _ _ _ _ _ (by omega), heap_set_other _ _ _ _ _ (by omega)]; exact r7
  have hef : Ext w ((w8.setCell ⟨p, 0, none⟩ (.slice (some ⟨g, 0, none⟩) 2 2)).setCell ⟨p, 1, none⟩ (.slice (some ⟨h, 0, none⟩) 5 5)) := ((e0.trans hE).setCell (by rw [hp]; exact Nat.le_refl _) _).setCell (by rw [hp]; exact Nat.le_refl _) _
  have HROW := Lib.hid hrow
  have HGR := Lib.hid hgr
  have HHR := Lib.hid hhr
  have HEF := Lib.hid hef
  clear hrow hgr hhr hef r7 r2' r0' hE e0
  go_wp2_with (fail)
  have HGo := HG.out
  have HHo := HH.out
  try simp only [HGo, HHo]
  obtain ⟨wf, hwf⟩ : ∃ wf, ((w8.setCell ⟨p, 0, none⟩ (.slice (some ⟨g, 0, none⟩) 2 2)).setCell ⟨p, 1, none⟩ (.slice (some ⟨h, 0, none⟩) 5 5)) = wf := ⟨_, rfl⟩
  rw [hwf] at HROW HGR HHR HEF
  try simp only [hwf]
  have k0 : wf.cell? ⟨p, 0, none⟩ = some (.slice (some ⟨g, 0, none⟩) 2 2) := cell_of_row _ _ _ _ _ _ HROW.out
  have k1 : wf.cell? ⟨p, 1, none⟩ = some (.slice (some ⟨h, 0, none⟩) 5 5) := cell_of_row _ _ _ _ _ _ HROW.out
  refine bodyPost_ret (v := .agg #[.slice (some ⟨g, 0, none⟩) 2 2, .slice (some ⟨h, 0, none⟩) 5 5]) (by simp [results, Try.f52, go_sem, k0, k1]) rfl ⟨g, h, rfl, HEF.out, by omega, by omega, HGR.out, HHR.out⟩
theorem flatS_at : ∀ (r : List (Int × Int)) (j : Nat), (r.flatMap encS)[j]? = (r[j / 2]?).bind fun x => (encS x)[j % 2]?
  | [], j => by simp
  | x :: r, 0 => by simp [encS]
  | x :: r, 1 => by simp [encS]
  | x :: r, j + 2 => by
    rw [List.flatMap_cons, show (j + 2) / 2 = j / 2 + 1 from by omega, show (j + 2) % 2 = j % 2 from by omega, List.getElem?_cons_succ, ← flatS_at r j]
    simp [encS]
theorem held_row {w : World} {g : Nat} {t : TypeId} {cs : Array Value} {xs : List (Int × Int)} (hg : w.heap[g]? = some (.cells cs t (0, 0))) (hcs : cs.toList = xs.flatMap encS) : Held w w.heap.size 2 encS (some ⟨g, 0, none⟩) xs := by
  refine .inr ⟨g, 0, rfl, (Array.getElem?_eq_some_iff.1 hg).1, fun j x hx i v hv => ?_⟩
  have hi : i < 2 := by have := (List.getElem?_eq_some_iff.1 hv).1; simpa [encS] using this
  refine (cell_of_row _ _ _ _ _ _ hg).trans ?_
  rw [← Array.getElem?_toList, hcs, flatS_at, show (0 + j * 2 + i) / 2 = j from by omega, show (0 + j * 2 + i) % 2 = i from by omega, hx]
  exact hv
/-- The sheet of the examples, as a sheet. -/
theorem sheet_is {w : World} {g h : Nat} (hg : w.heap[g]? = some (.cells scCells 65 (0, 0))) (hh : w.heap[h]? = some (.cells smCells 75 (0, 0))) : IsSheet w w.heap.size (some ⟨g, 0, none⟩) 2 2 (some ⟨h, 0, none⟩) 5 5 SC SM :=
  ⟨rfl, rfl, by decide, by decide, by decide, by decide, held_row hg rfl, held_row hh rfl⟩
end Go.Proofs.Ytlaakmgdbhabfaa
