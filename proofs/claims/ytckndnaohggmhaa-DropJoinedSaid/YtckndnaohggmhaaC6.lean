/- Texts of the package drop, joined: Row, Sizes, Measured, Opened, OpenedFor, Touch, Size. -/
import Derived.Test.YtckndnaohggmhaaC5
import Derived.Laws.Rows
import Derived.Laws.Tables
import Derived.Deep.WholeRow
import Derived.Great.Walk
/- A whole bath with its sizes is made, stored, loaded: by its row, not cell by cell. -/
namespace Go.Proofs.Ytckndnaohggmhaa
open Go.RowKit Go.Shelf

def Z84 : Array Value := sizedCells 0 none 0 0 none 0 0 (fun _ => (0, 0))

theorem zero84 (w : World) : (zeroValue 84).run Try.prog w = .ok (.agg Z84) w := Try.zeroValue84 w
theorem size84 : (Try.prog.info? 84).map (·.size) = some 23 := by kernel_rfl
theorem struct84 : ∃ d, Try.prog.underlying 84 = some d ∧ (match d with | .struct _ | .array _ _ => true | _ => false) = true := ⟨_, Try.underlying84, rfl⟩

section
variable {ops : Array Oper} {rest : List Oper} {o : Oper} {a : Act} {w : World} {Q : Exit → Act → World → Prop}
theorem wpList_alloc84 (hg : o.guard = none) (ho : o.op = .alloc 84) (h : wpList Try.prog ops Q rest (a.put o.dst (.pointer (some ⟨w.heap.size, 0, none⟩))) (w.alloc (.cells Z84 84))) : wpList Try.prog ops Q (o :: rest) a w := by
  refine wpList_plain hg fun K hK => ?_
  unfold Oper.wp execOp
  simp only [ho]
  have hz := zero84 w
  have hn : (newVar 84 (.agg Z84)).run Try.prog w = .ok ⟨w.heap.size, 0, none⟩ (w.alloc (.cells Z84 84)) := by
    go_simp
  simp [Instr.alloc, hz, hn]
  exact hK _ _ h

theorem wpList_build84_0 (hg : o.guard = none) (ho : o.op = .build 84 #[]) (h : wpList Try.prog ops Q rest (a.put o.dst (.agg Z84)) w) : wpList Try.prog ops Q (o :: rest) a w := by
  have hb : Try.prog.built 84 [] = some Z84 := by kernel_rfl
  refine wpList_build hg 84 #[] ho (by simp [hb]) ?_
  simpa [hb] using h

theorem wpList_build84_1 (x : Operand) (hg : o.guard = none) (ho : o.op = .build 84 #[(0, x)]) (Wd : Int) (A : Option Addr) (n c : Nat) (A' : Option Addr) (n' c' : Nat) (hx : a.eval x = .agg #[.int .i64 Wd, .slice A n c, .slice A' n' c'])
    (h : wpList Try.prog ops Q rest (a.put o.dst (.agg (sizedCells Wd A n c A' n' c' (fun _ => (0, 0))))) w) : wpList Try.prog ops Q (o :: rest) a w := by
  have hb : Try.prog.built 84 [(0, .agg #[.int .i64 Wd, .slice A n c, .slice A' n' c'])] = some (sizedCells Wd A n c A' n' c' (fun _ => (0, 0))) := by kernel_rfl
  refine wpList_build hg 84 #[(0, x)] ho (by simp [hx, hb]) ?_
  simpa [hx, hb] using h

theorem wpList_build84_as (x : Operand) (hg : o.guard = none) (ho : o.op = .build 84 #[(0, x)]) (Wd : Int) (A : Option Addr) (n c : Nat) (A' : Option Addr) (n' c' : Nat) (hx : a.eval x = .agg #[.int .i64 Wd, .slice A n c, .slice A' n' c'])
    (cs : Array Value) (hcs : Hid (sizedCells Wd A n c A' n' c' (fun _ => (0, 0)) = cs)) (h : wpList Try.prog ops Q rest (a.put o.dst (.agg cs)) w) : wpList Try.prog ops Q (o :: rest) a w :=
  wpList_build84_1 x hg ho Wd A n c A' n' c' hx (by rw [hcs.out]; exact h)

theorem wpList_load84 (x : Operand) (hgd : o.guard = none) (ho : o.op = .load 84 x) (g : Nat) (hx : a.eval x = .pointer (some ⟨g, 0, none⟩)) (cs : Array Value) (hs : cs.size = 23) (hg : w.heap[g]? = some (.cells cs 84 (0, 0)))
    (h : wpList Try.prog ops Q rest (a.put o.dst (.agg cs)) w) : wpList Try.prog ops Q (o :: rest) a w :=
  wpList_load_row hgd 84 x ho g hx 84 cs (0, 0) _ hg Try.underlying84 rfl (by rw [size84, hs]) h

theorem wpList_store84 (x y : Operand) (hgd : o.guard = none) (ho : o.op = .store 84 x y) (g : Nat) (hx : a.eval x = .pointer (some ⟨g, 0, none⟩)) (cs old : Array Value) (hs : cs.size = 23) (ho' : old.size = 23) (h1 : cs.all (·.oneCell') = true) (hy : a.eval y = .agg cs)
    (hg : w.heap[g]? = some (.cells old 84 (0, 0))) (h : wpList Try.prog ops Q rest (a.put o.dst undef) (w.setRow g cs)) : wpList Try.prog ops Q (o :: rest) a w :=
  wpList_store_row hgd 84 x y ho g cs hx hy 84 old hg (by rw [size84, hs]) (by rw [ho', hs]) h1 h

theorem below_setRow {B g : Nat} {v w : World} (h : Below B v w) (hg : B ≤ g) (cs : Array Value) : Below B v (w.setRow g cs) := by
  refine ⟨h.os, h.tape, h.output, by have := h.size; simpa [World.setRow] using this, fun k hk => ?_⟩
  rw [← h.block k hk]
  simp [World.setRow, Array.getElem?_modify]
  omega

theorem row_setRow (w : World) (g : Nat) (cs old : Array Value) (t : TypeId) (fr : Nat × Nat) (h : w.heap[g]? = some (.cells old t fr)) : (w.setRow g cs).heap[g]? = some (.cells cs t fr) := by
  simp [World.setRow, Array.getElem?_modify, h]

end
/-- A whole row into the block that was made last, as the walk's simp leaves it. -/
theorem store_last (w : World) (g : Nat) (hg : g = w.heap.size) (old cs : Array Value) (hs : cs.size = 23) (ho : old.size = 23) (h1 : cs.all (·.oneCell') = true) :
    (storeCells ⟨g, 0, none⟩ cs.toList 0).run Try.prog (w.alloc (.cells old 84)) = .ok () (w.alloc (.cells cs 84)) := by
  subst hg
  exact run_storeCells_new w 84 old cs (by rw [size84, hs]) (by rw [hs, ho]) h1
/-- A whole row out of a block. -/
theorem load_whole (w : World) (g : Nat) (cs : Array Value) (hs : cs.size = 23) (h : w.heap[g]? = some (.cells cs 84 (0, 0))) :
    (loadCellsFrom ⟨g, 0, none⟩ 0 23 #[]).run Try.prog w = .ok cs w := by
  have := run_loadCells_list (P := Try.prog) w ⟨g, 0, none⟩ cs.toList (fun j v hv => by
    have hadd : (⟨g, 0, none⟩ : Addr).add j = ⟨g, j, none⟩ := by unfold Addr.add; split <;> simp_all
    rw [hadd, cell_of_row _ _ j cs 84 (0, 0) h]
    simpa using hv)
  simpa [loadCells, hs] using this
/-- A whole row into a block. -/
theorem store_whole (w : World) (g : Nat) (old cs : Array Value) (hs : cs.size = 23) (ho : old.size = 23) (h1 : cs.all (·.oneCell') = true) (h : w.heap[g]? = some (.cells old 84 (0, 0))) :
    (storeCells ⟨g, 0, none⟩ cs.toList 0).run Try.prog w = .ok () (w.setRow g cs) := by
  have := run_storeVar_row (P := Try.prog) w g 84 84 old cs h (by rw [size84, hs]) (by rw [ho, hs]) h1
  simpa [storeVar, Try.sizeOf84, hs, Value.cells] using this
theorem sizedCells_size (Wd : Int) (A : Option Addr) (n c : Nat) (A' : Option Addr) (n' c' : Nat) (sz : Nat → Int × Int) : (sizedCells Wd A n c A' n' c' sz).size = 23 := rfl
theorem sizedCells_one (Wd : Int) (A : Option Addr) (n c : Nat) (A' : Option Addr) (n' c' : Nat) (sz : Nat → Int × Int) : (sizedCells Wd A n c A' n' c' sz).all (·.oneCell') = true := by simp [sizedCells, Value.oneCell']
theorem Z84_size : Z84.size = 23 := rfl
theorem Z84_one : Z84.all (·.oneCell') = true := sizedCells_one _ _ _ _ _ _ _ _
end Go.Proofs.Ytckndnaohggmhaa

/- The sizes of the spots, as plain numbers. -/
namespace Go.Proofs.Ytckndnaohggmhaa
open Go.RowKit Go.Shelf

/-- What one drop adds to the size of spot i. -/
def addTo (i : Nat) (p : Int × Int) (d : Int × Int × Int) : Int × Int := if d.1 = i then (p.1 + d.2.1, p.2 + d.2.2) else p
/-- Between which ends the size of spot i lies. -/
def sizes (ds : List (Int × Int × Int)) (i : Nat) : Int × Int := ds.foldl (addTo i) (0, 0)

theorem sizes_snoc (ds : List (Int × Int × Int)) (j : Nat) (hj : j < ds.length) (i : Nat) : sizes (ds.take (j + 1)) i = addTo i (sizes (ds.take j) i) ds[j] := by
  unfold sizes
  rw [List.take_succ_eq_append_getElem hj, List.foldl_append]
  rfl

theorem sizes_bd (ds : List (Int × Int × Int)) (h : ∀ d ∈ ds, 1 ≤ d.2.1 ∧ d.2.1 ≤ d.2.2 ∧ d.2.2 ≤ 10000) (i : Nat) :
    0 ≤ (sizes ds i).1 ∧ (sizes ds i).1 ≤ (sizes ds i).2 ∧ (sizes ds i).2 ≤ 10000 * ds.length := by
  unfold sizes
  have key : ∀ (l : List (Int × Int × Int)) (p : Int × Int), (∀ d ∈ l, 1 ≤ d.2.1 ∧ d.2.1 ≤ d.2.2 ∧ d.2.2 ≤ 10000) → 0 ≤ p.1 → p.1 ≤ p.2 →
      0 ≤ (l.foldl (addTo i) p).1 ∧ (l.foldl (addTo i) p).1 ≤ (l.foldl (addTo i) p).2 ∧ (l.foldl (addTo i) p).2 ≤ p.2 + 10000 * l.length := by
    intro l
    induction l with
    | nil => intro p _ h0 h1; exact ⟨h0, h1, by simp⟩
    | cons d l ih =>
      intro p hl h0 h1
      have hd := hl d (by simp)
      have h3 : 0 ≤ (addTo i p d).1 ∧ (addTo i p d).1 ≤ (addTo i p d).2 ∧ (addTo i p d).2 ≤ p.2 + 10000 := by
        unfold addTo
        split
        · exact ⟨by show 0 ≤ p.1 + d.2.1; omega, by show p.1 + d.2.1 ≤ p.2 + d.2.2; omega, by show p.2 + d.2.2 ≤ p.2 + 10000; omega⟩
        · exact ⟨h0, h1, by omega⟩
      have h4 := ih (addTo i p d) (fun e he => hl e (by simp [he])) h3.1 h3.2.1
      refine ⟨h4.1, h4.2.1, ?_⟩
      have h5 : (l.foldl (addTo i) (addTo i p d)).2 ≤ (addTo i p d).2 + 10000 * l.length := h4.2.2
      show (l.foldl (addTo i) (addTo i p d)).2 ≤ p.2 + 10000 * ((l.length + 1 : Nat) : Int)
      omega
  have := key ds (0, 0) h (by simp) (by simp)
  simpa using this

theorem set_sized (Wd : Int) (A : Option Addr) (n c : Nat) (A' : Option Addr) (n' c' : Nat) (sz sz' : Nat → Int × Int) (i : Nat) (hi : i < 10) (l h : Int) (he : sz' i = (l, h)) (hne : ∀ m, m ≠ i → sz' m = sz m) :
    ((sizedCells Wd A n c A' n' c' sz).setIfInBounds (3 + i * 2) (.int .i64 l)).setIfInBounds (3 + i * 2 + 1) (.int .i64 h) = sizedCells Wd A n c A' n' c' sz' := by
  have e1 : l = (sz' i).1 := by rw [he]
  have e2 : h = (sz' i).2 := by rw [he]
  subst e1; subst e2
  clear he
  match i, hi with
  | 0, _ => simp [sizedCells, hne]
  | 1, _ => simp [sizedCells, hne]
  | 2, _ => simp [sizedCells, hne]
  | 3, _ => simp [sizedCells, hne]
  | 4, _ => simp [sizedCells, hne]
  | 5, _ => simp [sizedCells, hne]
  | 6, _ => simp [sizedCells, hne]
  | 7, _ => simp [sizedCells, hne]
  | 8, _ => simp [sizedCells, hne]
  | 9, _ => simp [sizedCells, hne]

end Go.Proofs.Ytckndnaohggmhaa

/- measured: the bath with the sizes that its first drops make. -/
namespace Go.Proofs.Ytckndnaohggmhaa
open Go.RowKit Go.Shelf

theorem drops_bd {Wd : Int} {ss : List (Int × Int)} {ds : List (Int × Int × Int)} (h : bathErr Wd ss ds = 0) (k : Nat) : ∀ d ∈ ds.take k, 1 ≤ d.2.1 ∧ d.2.1 ≤ d.2.2 ∧ d.2.2 ≤ 10000 := fun d hd => by
  obtain ⟨i, hi⟩ := List.mem_iff_getElem?.1 (List.mem_of_mem_take hd)
  exact (drop_ok h hi).2

theorem sizes_bd' {Wd : Int} {ss : List (Int × Int)} {ds : List (Int × Int × Int)} (h : bathErr Wd ss ds = 0) (k i : Nat) : (0 ≤ (sizes (ds.take k) i).1 ∧ (sizes (ds.take k) i).1 ≤ 400000) ∧ (0 ≤ (sizes (ds.take k) i).2 ∧ (sizes (ds.take k) i).2 ≤ 400000) := by
  have := sizes_bd (ds.take k) (drops_bd h k) i
  have h2 := (bath_ok h).2.1.2
  have h3 : (ds.take k).length ≤ 40 := by rw [List.length_take]; omega
  omega

set_option maxHeartbeats 1000000 in
theorem measured_any (Wd : Int) (A : Option Addr) (n c : Nat) (A' : Option Addr) (n' c' : Nat) (ss : List (Int × Int)) (ds : List (Int × Int × Int)) (w : World) (k : Nat) (hk : k ≤ n')
    (hb : IsBath w w.heap.size A n c A' n' c' ss ds) (hok : bathErr Wd ss ds = 0) :
    Calls Try.prog 76 #[.agg #[.int .i64 Wd, .slice A n c, .slice A' n' c'], .int .i64 k] w fun e w' => e = .returned (.agg (sizedCells Wd A n c A' n' c' (sizes (ds.take k)))) ∧ Below w.heap.size w w' := by
  have hkc : (k : Int) ≤ c' := by have := hb.cap'; omega
  have hk' := hb.cap'
  have hle := hb.nle'
  obtain ⟨cs, hcs⟩ : ∃ cs, sizedCells Wd A n c A' n' c' (sizes (ds.take k)) = cs := ⟨_, rfl⟩
  rw [hcs]
  have HC := Lib.hid hcs
  clear hcs
  obtain ⟨m0, hm0⟩ : ∃ cs, sizedCells Wd A n c A' n' c' (fun _ => (0, 0)) = cs := ⟨_, rfl⟩
  have z0 : m0.size = 23 := by rw [← hm0]; rfl
  have o0 : m0.all (·.oneCell') = true := by rw [← hm0]; exact sizedCells_one _ _ _ _ _ _ _ _
  have HM := Lib.hid hm0
  clear hm0
  have hst := store_last ((w.alloc (.cells #[.int .i64 Wd, .slice A n c, .slice A' n' c'] 25)).alloc (.cells Z84 84)) (w.heap.size + 1 + 1) (by simp) Z84 m0 z0 Z84_size o0
  clear o0
  go_enter Try.func76, Try.ntmps76
  go_wp2_with (first | refine wpList_alloc84 rfl rfl ?_ | refine wpList_build84_as _ rfl rfl Wd A n c A' n' c' rfl m0 HM ?_)
  clear hst
  have f1 : Below w.heap.size w (((w.alloc (.cells #[.int .i64 Wd, .slice A n c, .slice A' n' c'] 25)).alloc (.cells Z84 84)).alloc (.cells m0 84)) := (((Below.refl _ w).alloc (Nat.le_refl _) _).alloc (by simp) _).alloc (by simp; omega) _
  have f2 : (((w.alloc (.cells #[.int .i64 Wd, .slice A n c, .slice A' n' c'] 25)).alloc (.cells Z84 84)).alloc (.cells m0 84)).heap.size = w.heap.size + 3 := by simp
  have f3 : (((w.alloc (.cells #[.int .i64 Wd, .slice A n c, .slice A' n' c'] 25)).alloc (.cells Z84 84)).alloc (.cells m0 84)).heap[w.heap.size + 1]? = some (.cells Z84 84 (0, 0)) := by
    apply row_alloc
    have := heap_alloc_last (w.alloc (.cells #[.int .i64 Wd, .slice A n c, .slice A' n' c'] 25)) (.cells Z84 84)
    simpa using this
  have f4 : (((w.alloc (.cells #[.int .i64 Wd, .slice A n c, .slice A' n' c'] 25)).alloc (.cells Z84 84)).alloc (.cells m0 84)).heap[w.heap.size + 1 + 1]? = some (.cells m0 84 (0, 0)) := by
    have := heap_alloc_last ((w.alloc (.cells #[.int .i64 Wd, .slice A n c, .slice A' n' c'] 25)).alloc (.cells Z84 84)) (.cells m0 84)
    simpa using this
  obtain ⟨W0, hW0⟩ : ∃ W0, (((w.alloc (.cells #[.int .i64 Wd, .slice A n c, .slice A' n' c'] 25)).alloc (.cells Z84 84)).alloc (.cells m0 84)) = W0 := ⟨_, rfl⟩
  rw [hW0] at f1 f2 f3 f4 ⊢
  clear hW0
  rw [← HM.out] at f4
  have F1 := Lib.hid f1
  have F2 := Lib.hid f2
  have F3 := Lib.hid f3
  have F4 := Lib.hid f4
  clear f1 f2 f3 f4
  go_loopw [7, 15] (fun _ i wr => ∃ j : Nat, j ≤ k ∧ i = .int .i64 j ∧ Hid (Below (w.heap.size + 2) W0 wr) ∧ Hid (wr.heap[w.heap.size + 1 + 1]? = some (.cells (sizedCells Wd A n c A' n' c' (sizes (ds.take j))) 84 (0, 0)))) (fun _ i _ => k - (intOf i).toNat)
  case atStart => exact ⟨0, Nat.zero_le _, rfl, Lib.hid (Below.refl _ _), F4⟩
  case round =>
    obtain ⟨j, hj, rfl, hB, hR⟩ := hrel
    have hz : W0.heap.size ≤ wr.heap.size := hB.out.size
    rw [F2.out] at hz
    by_cases hlt : j < k
    · have hltz : (j : Int) < (k : Int) := by omega
      have hjl : j < ds.length := by rw [← hb.nds]; omega
      obtain ⟨d, hd⟩ : ∃ d, ds[j] = d := ⟨_, rfl⟩
      have hdok := drop_ok hok (i := j) (s := d) (by rw [← hd]; exact List.getElem?_eq_getElem hjl)
      have hss := (bath_ok hok).2.1.1
      have hcell : ∃ b off, A' = some ⟨b, off, none⟩ ∧ wr.cell? ⟨b, off + j * 3, none⟩ = some (.int .i64 d.1) ∧ wr.cell? ⟨b, off + j * 3 + 1, none⟩ = some (.int .i64 d.2.1) ∧ wr.cell? ⟨b, off + j * 3 + 2, none⟩ = some (.int .i64 d.2.2) := by
        rcases hb.hds with h | ⟨b, off, rfl, hlt', hc⟩
        · simp [h] at hjl
        · have hk2 : ∀ i, wr.cell? ⟨b, i, none⟩ = w.cell? ⟨b, i, none⟩ := fun i => (hB.out.cell (p := ⟨b, i, none⟩) (by show b < _; omega)).trans (F1.out.cell (p := ⟨b, i, none⟩) hlt')
          have hx : ds[j]? = some d := by rw [← hd]; exact List.getElem?_eq_getElem hjl
          exact ⟨b, off, rfl, (hk2 _).trans (hc j d hx 0 _ rfl), (hk2 _).trans (hc j d hx 1 _ rfl), (hk2 _).trans (hc j d hx 2 _ rfl)⟩
      obtain ⟨b, off, rfl, c1, c2, c3⟩ := hcell
      obtain ⟨d1, lo, hi⟩ := d
      obtain ⟨i, rfl⟩ := Int.eq_ofNat_of_zero_le hdok.1.1
      simp only at hdok c1 c2 c3
      have hi10 : i < 10 := by omega
      have hs := sizes_bd' hok j i
      have hsn : ∀ m, sizes (ds.take (j + 1)) m = addTo m (sizes (ds.take j) m) ((i : Int), lo, hi) := fun m => by rw [sizes_snoc ds j hjl, hd]
      have hcon := grow_any (w.heap.size + 1 + 1) i hi10 (sizes (ds.take j) i).1 (sizes (ds.take j) i).2 lo hi (wr.alloc (.cells #[.int .i64 i, .int .i64 lo, .int .i64 hi] 62)) _ (row_alloc _ _ _ _ hR.out) (sizedCells_lo _ _ _ _ _ _ _ _ i hi10) (sizedCells_hi _ _ _ _ _ _ _ _ i hi10)
        (by omega) (by omega) (by omega) (by omega)
      rw [set_sized Wd A n c (some ⟨b, off, none⟩) n' c' (sizes (ds.take j)) (sizes (ds.take (j + 1))) i hi10 _ _ (by rw [hsn]; simp [addTo]) (fun m hm => by rw [hsn]; unfold addTo; rw [if_neg (by show ¬ ((i : Int) = (m : Int)); omega)])] at hcon
      have HD := Lib.hid hd
      have HSN := Lib.hid hsn
      clear hd hsn hs hdok
      go_wp2_with (go_at_call 86; refine hcon.mono ?_; rintro e w1 ⟨rfl, hgr⟩)
      go_roundw
      case measure => simp [intOf]; omega
      case rel => exact ⟨j + 1, by omega, by go_num, Lib.hid ((hB.out.alloc (by omega) _).trans (hgr.1.mono (by omega))), Lib.hid hgr.2⟩
    · have hltz : ¬ (j : Int) < (k : Int) := by omega
      have : j = k := by omega
      subst this
      rw [HC.out] at hR
      have zc : cs.size = 23 := by rw [← HC.out]; rfl
      have h3 : wr.heap[w.heap.size + 1]? = some (.cells Z84 84 (0, 0)) := (hB.out.block _ (by omega)).trans F3.out
      have o1 : cs.all (·.oneCell') = true := by rw [← HC.out]; exact sizedCells_one _ _ _ _ _ _ _ _
      have H3 := Lib.hid h3
      have O1 := Lib.hid o1
      clear h3 o1
      go_wp2_with (first | refine wpList_load84 (.tmp 5) rfl rfl (w.heap.size + 1 + 1) rfl cs zc hR.out ?_ | refine wpList_store84 (.tmp 4) (.tmp 25) rfl rfl (w.heap.size + 1) rfl cs Z84 zc Z84_size O1.out rfl H3.out ?_)
      refine bodyPost_ret (v := .agg cs) (results_cell_row rfl _ _ (w.heap.size + 1) 84 cs (0, 0) _ rfl (row_setRow _ _ _ _ _ _ H3.out) Try.underlying84 rfl (by rw [size84, zc])) rfl ⟨rfl, ?_⟩
      exact below_setRow ((F1.out.trans (hB.out.mono (by omega)))) (by omega) _
end Go.Proofs.Ytckndnaohggmhaa

/- opened, openedFor: the bath with its sizes, or the error. -/
namespace Go.Proofs.Ytckndnaohggmhaa
open Go.RowKit Go.Shelf

theorem results_row_tmp {fn : Func} {p q : Tmp} (h : fn.results = #[.cell p 84, .tmp q]) (tmps : Array Value) (w : World) (g : Nat) (cs : Array Value)
    (v : Value) (hp : tmps.getD p undef = .pointer (some ⟨g, 0, none⟩)) (hv : tmps.getD q undef = v) (hs : cs.size = 23) (hg : w.heap[g]? = some (.cells cs 84 (0, 0))) :
    (results fn tmps).run Try.prog w = .ok (.tuple #[.agg cs, v]) w := by
  subst hv
  have hp' : tmps[p]?.getD undef = .pointer (some ⟨g, 0, none⟩) := by simpa using hp
  simp [results, h, hp', asAddr, run_loadVar_row (P := Try.prog) w g 84 84 cs (0, 0) _ hg Try.underlying84 rfl (by rw [size84, hs])]

section
variable {w : World} {Wd : Int} {A : Option Addr} {n c : Nat} {A' : Option Addr} {n' c' : Nat} {ss : List (Int × Int)} {ds : List (Int × Int × Int)}

theorem row_last (w : World) (o : Obj) (g : Nat) (hg : g = w.heap.size) : (w.alloc o).heap[g]? = some o := by subst hg; exact heap_alloc_last w o

set_option maxHeartbeats 1000000 in
theorem opened_bad (hb : IsBath w w.heap.size A n c A' n' c' ss ds) (hok : bathErr Wd ss ds ≠ 0) :
    Calls Try.prog 58 #[.agg #[.int .i64 Wd, .slice A n c, .slice A' n' c']] w fun e w' => e = .returned (.tuple #[.agg Z84, .int .i64 (bathErr Wd ss ds)]) ∧ Below w.heap.size w w' := by
  have hcon : ∀ W, Below w.heap.size w W → _ := fun W hW => checkBath Wd A n c A' n' c' ss ds W ((hb.kept hW (Nat.le_refl _)).wider hW.size)
  generalize bathErr Wd ss ds = r at hok hcon ⊢
  have hne : (r == 0) = false := by simpa using hok
  have hne2 : (r != 0) = true := by simpa using hok
  have c1 := hcon ((w.alloc (.cells #[.int .i64 Wd, .slice A n c, .slice A' n' c'] 25)).alloc (.cells Z84 84)) (((Below.refl _ w).alloc (Nat.le_refl _) _).alloc (by simp) _)
  clear hcon
  go_enter Try.func58, Try.ntmps58
  go_wp2_with (first | refine wpList_alloc84 rfl rfl ?_ | fail)
  refine c1.mono ?_
  rintro e w1 ⟨rfl, hb1⟩
  have hB : Below w.heap.size w w1 := bstep (((Below.refl _ w).alloc (Nat.le_refl _) _).alloc (by simp) _) (by simp; omega) hb1
  have h3 : w1.heap[w.heap.size + 1]? = some (.cells Z84 84 (0, 0)) := (hb1.block _ (by simp)).trans (row_last _ _ _ (by simp))
  have H3 := Lib.hid h3
  clear h3 hb1
  go_wp2_with (first | refine wpList_build84_0 rfl rfl ?_ | refine wpList_store84 (.tmp 2) (.tmp 9) rfl rfl (w.heap.size + 1) rfl Z84 Z84 Z84_size Z84_size Z84_one rfl H3.out ?_)
  refine bodyPost_ret (v := .tuple #[.agg Z84, .int .i64 r]) (results_row_tmp rfl _ _ (w.heap.size + 1) Z84 _ rfl rfl Z84_size (row_setRow _ _ _ _ _ _ H3.out)) rfl ⟨rfl, below_setRow hB (by omega) _⟩

set_option maxHeartbeats 1000000 in
theorem opened_ok (hb : IsBath w w.heap.size A n c A' n' c' ss ds) (hok : bathErr Wd ss ds = 0) :
    Calls Try.prog 58 #[.agg #[.int .i64 Wd, .slice A n c, .slice A' n' c']] w fun e w' => e = .returned (.tuple #[.agg (sizedCells Wd A n c A' n' c' (sizes ds)), .int .i64 0]) ∧ Below w.heap.size w w' := by
  have hcon : ∀ W, Below w.heap.size w W → _ := fun W hW => checkBath Wd A n c A' n' c' ss ds W ((hb.kept hW (Nat.le_refl _)).wider hW.size)
  have hmea : ∀ W, Below w.heap.size w W → _ := fun W hW => measured_any Wd A n c A' n' c' ss ds W n' (Nat.le_refl _) ((hb.kept hW (Nat.le_refl _)).wider hW.size) hok
  have htk : ds.take n' = ds := by rw [hb.nds]; exact List.take_length
  rw [htk] at hmea
  rw [hok] at hcon
  obtain ⟨cs, hcs⟩ : ∃ cs, sizedCells Wd A n c A' n' c' (sizes ds) = cs := ⟨_, rfl⟩
  rw [hcs] at hmea ⊢
  have zc : cs.size = 23 := by rw [← hcs]; rfl
  have oc : cs.all (·.oneCell') = true := by rw [← hcs]; exact sizedCells_one _ _ _ _ _ _ _ _
  have OC := Lib.hid oc
  have c1 := hcon ((w.alloc (.cells #[.int .i64 Wd, .slice A n c, .slice A' n' c'] 25)).alloc (.cells Z84 84)) (((Below.refl _ w).alloc (Nat.le_refl _) _).alloc (by simp) _)
  clear hcon htk hcs oc
  go_enter Try.func58, Try.ntmps58
  go_wp2_with (first | refine wpList_alloc84 rfl rfl ?_ | fail)
  refine c1.mono ?_
  rintro e w1 ⟨rfl, hb1⟩
  have hB : Below w.heap.size w w1 := bstep (((Below.refl _ w).alloc (Nat.le_refl _) _).alloc (by simp) _) (by simp; omega) hb1
  have h3 : w1.heap[w.heap.size + 1]? = some (.cells Z84 84 (0, 0)) := (hb1.block _ (by simp)).trans (row_last _ _ _ (by simp))
  have x0 : w1.cell? ⟨w.heap.size, 0, none⟩ = some (.int .i64 Wd) := (hb1.cell (p := ⟨w.heap.size, 0, none⟩) (by simp <;> omega)).trans (by simp)
  have x1 : w1.cell? ⟨w.heap.size, 1, none⟩ = some (.slice A n c) := (hb1.cell (p := ⟨w.heap.size, 1, none⟩) (by simp <;> omega)).trans (by simp)
  have x2 : w1.cell? ⟨w.heap.size, 2, none⟩ = some (.slice A' n' c') := (hb1.cell (p := ⟨w.heap.size, 2, none⟩) (by simp <;> omega)).trans (by simp)
  have hz1 : w.heap.size + 2 ≤ w1.heap.size := by have := hb1.size; simpa using this
  have H3 := Lib.hid h3
  have c2 := hmea w1 hB
  clear h3 hb1 hmea
  go_wp2_with fail
  refine c2.mono ?_
  rintro e w2 ⟨rfl, hb2⟩
  have H4 : Hid (w2.heap[w.heap.size + 1]? = some (.cells Z84 84 (0, 0))) := Lib.hid ((hb2.block _ (by omega)).trans H3.out)
  have hB2 : Below w.heap.size w w2 := bstep hB hB.size hb2
  clear hb2 x0 x1 x2
  go_wp2_with (first | refine wpList_store84 (.tmp 2) (.tmp 15) rfl rfl (w.heap.size + 1) rfl cs Z84 zc Z84_size OC.out rfl H4.out ?_)
  refine bodyPost_ret (v := .tuple #[.agg cs, .int .i64 0]) (results_row_tmp rfl _ _ (w.heap.size + 1) cs _ rfl rfl zc (row_setRow _ _ _ _ _ _ H4.out)) rfl ⟨rfl, below_setRow hB2 (by omega) _⟩
end
end Go.Proofs.Ytckndnaohggmhaa

/- openedFor: the bath with its sizes, or the error of the bath, or of the places. -/
namespace Go.Proofs.Ytckndnaohggmhaa
open Go.RowKit Go.Shelf
section
variable {w : World} {Wd : Int} {A : Option Addr} {n c : Nat} {A' : Option Addr} {n' c' : Nat} {ss : List (Int × Int)} {ds : List (Int × Int × Int)}

set_option maxHeartbeats 1000000 in
theorem openedFor_bad (one two : Int) (hb : IsBath w w.heap.size A n c A' n' c' ss ds) (hok : bathErr Wd ss ds ≠ 0) :
    Calls Try.prog 68 #[.agg #[.int .i64 Wd, .slice A n c, .slice A' n' c'], .int .i64 one, .int .i64 two] w fun e w' => e = .returned (.tuple #[.agg Z84, .int .i64 (bathErr Wd ss ds)]) ∧ Below w.heap.size w w' := by
  have hcon : ∀ W, Below w.heap.size w W → _ := fun W hW => opened_bad (Wd := Wd) (c := c) (c' := c') ((hb.kept hW (Nat.le_refl _)).wider hW.size) hok
  generalize bathErr Wd ss ds = r at hok hcon ⊢
  have hne : (r == 0) = false := by simpa using hok
  have hne2 : (r != 0) = true := by simpa using hok
  have c1 := hcon ((w.alloc (.cells #[.int .i64 Wd, .slice A n c, .slice A' n' c'] 25)).alloc (.cells Z84 84)) (((Below.refl _ w).alloc (Nat.le_refl _) _).alloc (by simp) _)
  clear hcon
  go_enter Try.func68, Try.ntmps68
  go_wp2_with (first | refine wpList_alloc84 rfl rfl ?_ | fail)
  refine c1.mono ?_
  rintro e w1 ⟨rfl, hb1⟩
  have hB : Below w.heap.size w w1 := bstep (((Below.refl _ w).alloc (Nat.le_refl _) _).alloc (by simp) _) (by simp; omega) hb1
  have h3 : w1.heap[w.heap.size + 1]? = some (.cells Z84 84 (0, 0)) := (hb1.block _ (by simp)).trans (row_last _ _ _ (by simp))
  have hst := store_last w1 w1.heap.size rfl Z84 Z84 Z84_size Z84_size Z84_one
  have zz := Z84_size
  have H4 : Hid ((w1.alloc (.cells Z84 84)).heap[w.heap.size + 1]? = some (.cells Z84 84 (0, 0))) := Lib.hid (row_alloc _ _ _ _ h3)
  have hz1 : w.heap.size + 2 ≤ w1.heap.size := by have := hb1.size; simpa using this
  clear h3 hb1
  go_wp2_with (first | refine wpList_alloc84 rfl rfl ?_ | refine wpList_build84_0 rfl rfl ?_ | refine wpList_store84 (.tmp 6) (.tmp 17) rfl rfl (w.heap.size + 1) rfl Z84 Z84 Z84_size Z84_size Z84_one rfl H4.out ?_)
  refine bodyPost_ret (v := .tuple #[.agg Z84, .int .i64 r]) (results_row_tmp rfl _ _ (w.heap.size + 1) Z84 _ rfl rfl Z84_size (row_setRow _ _ _ _ _ _ H4.out)) rfl ⟨rfl, below_setRow (hB.alloc hB.size _) (by omega) _⟩

set_option maxHeartbeats 1000000 in
theorem openedFor_same (one two : Int) (hb : IsBath w w.heap.size A n c A' n' c' ss ds) (hok : bathErr Wd ss ds = 0) (heq : one = two) :
    Calls Try.prog 68 #[.agg #[.int .i64 Wd, .slice A n c, .slice A' n' c'], .int .i64 one, .int .i64 two] w fun e w' => e = .returned (.tuple #[.agg Z84, .int .i64 2]) ∧ Below w.heap.size w w' := by
  subst heq
  have hcon : ∀ W, Below w.heap.size w W → _ := fun W hW => opened_ok (Wd := Wd) (c := c) (c' := c') ((hb.kept hW (Nat.le_refl _)).wider hW.size) hok
  obtain ⟨cs, hcs⟩ : ∃ cs, sizedCells Wd A n c A' n' c' (sizes ds) = cs := ⟨_, rfl⟩
  have zc : cs.size = 23 := by rw [← hcs]; rfl
  have oc : cs.all (·.oneCell') = true := by rw [← hcs]; exact sizedCells_one _ _ _ _ _ _ _ _
  have OC := Lib.hid oc
  have HC := Lib.hid hcs
  have c1 := hcon ((w.alloc (.cells #[.int .i64 Wd, .slice A n c, .slice A' n' c'] 25)).alloc (.cells Z84 84)) (((Below.refl _ w).alloc (Nat.le_refl _) _).alloc (by simp) _)
  rw [hcs] at c1
  clear hcon hcs oc
  go_enter Try.func68, Try.ntmps68
  go_wp2_with (first | refine wpList_alloc84 rfl rfl ?_ | fail)
  refine c1.mono ?_
  rintro e w1 ⟨rfl, hb1⟩
  have hB : Below w.heap.size w w1 := bstep (((Below.refl _ w).alloc (Nat.le_refl _) _).alloc (by simp) _) (by simp; omega) hb1
  have h3 : w1.heap[w.heap.size + 1]? = some (.cells Z84 84 (0, 0)) := (hb1.block _ (by simp)).trans (row_last _ _ _ (by simp))
  have hst := store_last w1 w1.heap.size rfl Z84 cs zc Z84_size OC.out
  have hrow : (w1.alloc (.cells cs 84)).heap[w1.heap.size]? = some (.cells cs 84 (0, 0)) := row_last _ _ _ rfl
  have hs : IsSized (w1.alloc (.cells cs 84)) (w1.alloc (.cells cs 84)).heap.size w1.heap.size Wd A n c A' n' c' ss ds (sizes ds) :=
    ⟨by simp, by rw [HC.out]; exact hrow, (hb.kept (hB.alloc hB.size _) (Nat.le_refl _)).wider (by have := hB.size; simp; omega), hok, fun i => by have := sizes_bd' hok ds.length i; rw [List.take_length] at this; omega, fun i => by have := sizes_bd' hok ds.length i; rw [List.take_length] at this; omega⟩
  have H4 : Hid ((w1.alloc (.cells cs 84)).heap[w.heap.size + 1]? = some (.cells Z84 84 (0, 0))) := Lib.hid (row_alloc _ _ _ _ h3)
  have HRW := Lib.hid hrow
  have hz1 : w.heap.size + 2 ≤ w1.heap.size := by have := hb1.size; simpa using this
  clear h3 hb1 hrow
  clear hs
  go_wp2_with (first | refine wpList_alloc84 rfl rfl ?_ | refine wpList_build84_0 rfl rfl ?_ | refine wpList_store84 (.tmp 6) (.tmp 32) rfl rfl (w.heap.size + 1) rfl Z84 Z84 Z84_size Z84_size Z84_one rfl H4.out ?_)
  refine bodyPost_ret (v := .tuple #[.agg Z84, .int .i64 2]) (results_row_tmp rfl _ _ (w.heap.size + 1) Z84 _ rfl rfl Z84_size (row_setRow _ _ _ _ _ _ H4.out)) rfl ⟨rfl, below_setRow (hB.alloc hB.size _) (by omega) _⟩

set_option maxHeartbeats 1000000 in
theorem openedFor_no1 (one two : Int) (hb : IsBath w w.heap.size A n c A' n' c' ss ds) (hok : bathErr Wd ss ds = 0) (hne : one ≠ two) (h1 : (decide (-2 ≤ one) && decide (one < (n : Int))) = false) :
    Calls Try.prog 68 #[.agg #[.int .i64 Wd, .slice A n c, .slice A' n' c'], .int .i64 one, .int .i64 two] w fun e w' => e = .returned (.tuple #[.agg Z84, .int .i64 2]) ∧ Below w.heap.size w w' := by
  have hcon : ∀ W, Below w.heap.size w W → _ := fun W hW => opened_ok (Wd := Wd) (c := c) (c' := c') ((hb.kept hW (Nat.le_refl _)).wider hW.size) hok
  obtain ⟨cs, hcs⟩ : ∃ cs, sizedCells Wd A n c A' n' c' (sizes ds) = cs := ⟨_, rfl⟩
  have zc : cs.size = 23 := by rw [← hcs]; rfl
  have oc : cs.all (·.oneCell') = true := by rw [← hcs]; exact sizedCells_one _ _ _ _ _ _ _ _
  have OC := Lib.hid oc
  have HC := Lib.hid hcs
  have c1 := hcon ((w.alloc (.cells #[.int .i64 Wd, .slice A n c, .slice A' n' c'] 25)).alloc (.cells Z84 84)) (((Below.refl _ w).alloc (Nat.le_refl _) _).alloc (by simp) _)
  rw [hcs] at c1
  clear hcon hcs oc
  go_enter Try.func68, Try.ntmps68
  go_wp2_with (first | refine wpList_alloc84 rfl rfl ?_ | fail)
  refine c1.mono ?_
  rintro e w1 ⟨rfl, hb1⟩
  have hB : Below w.heap.size w w1 := bstep (((Below.refl _ w).alloc (Nat.le_refl _) _).alloc (by simp) _) (by simp; omega) hb1
  have h3 : w1.heap[w.heap.size + 1]? = some (.cells Z84 84 (0, 0)) := (hb1.block _ (by simp)).trans (row_last _ _ _ (by simp))
  have hst := store_last w1 w1.heap.size rfl Z84 cs zc Z84_size OC.out
  have hrow : (w1.alloc (.cells cs 84)).heap[w1.heap.size]? = some (.cells cs 84 (0, 0)) := row_last _ _ _ rfl
  have hs : IsSized (w1.alloc (.cells cs 84)) (w1.alloc (.cells cs 84)).heap.size w1.heap.size Wd A n c A' n' c' ss ds (sizes ds) :=
    ⟨by simp, by rw [HC.out]; exact hrow, (hb.kept (hB.alloc hB.size _) (Nat.le_refl _)).wider (by have := hB.size; simp; omega), hok, fun i => by have := sizes_bd' hok ds.length i; rw [List.take_length] at this; omega, fun i => by have := sizes_bd' hok ds.length i; rw [List.take_length] at this; omega⟩
  have H4 : Hid ((w1.alloc (.cells cs 84)).heap[w.heap.size + 1]? = some (.cells Z84 84 (0, 0))) := Lib.hid (row_alloc _ _ _ _ h3)
  have HRW := Lib.hid hrow
  have hz1 : w.heap.size + 2 ≤ w1.heap.size := by have := hb1.size; simpa using this
  clear h3 hb1 hrow
  have e1 : (one == two) = false := by simpa using hne
  have d1 := isPlace_any one hs
  rw [h1] at d1
  clear hs h1
  go_wp2_with (first | (go_at_call 93; refine d1.mono ?_; rintro e w2 ⟨rfl, rfl⟩) | refine wpList_alloc84 rfl rfl ?_ | refine wpList_build84_0 rfl rfl ?_ | refine wpList_store84 (.tmp 6) (.tmp 32) rfl rfl (w.heap.size + 1) rfl Z84 Z84 Z84_size Z84_size Z84_one rfl H4.out ?_)
  refine bodyPost_ret (v := .tuple #[.agg Z84, .int .i64 2]) (results_row_tmp rfl _ _ (w.heap.size + 1) Z84 _ rfl rfl Z84_size (row_setRow _ _ _ _ _ _ H4.out)) rfl ⟨rfl, below_setRow (hB.alloc hB.size _) (by omega) _⟩

set_option maxHeartbeats 1000000 in
theorem openedFor_no2 (one two : Int) (hb : IsBath w w.heap.size A n c A' n' c' ss ds) (hok : bathErr Wd ss ds = 0) (hne : one ≠ two) (h1 : (decide (-2 ≤ one) && decide (one < (n : Int))) = true) (h2 : (decide (-2 ≤ two) && decide (two < (n : Int))) = false) :
    Calls Try.prog 68 #[.agg #[.int .i64 Wd, .slice A n c, .slice A' n' c'], .int .i64 one, .int .i64 two] w fun e w' => e = .returned (.tuple #[.agg Z84, .int .i64 2]) ∧ Below w.heap.size w w' := by
  have hcon : ∀ W, Below w.heap.size w W → _ := fun W hW => opened_ok (Wd := Wd) (c := c) (c' := c') ((hb.kept hW (Nat.le_refl _)).wider hW.size) hok
  obtain ⟨cs, hcs⟩ : ∃ cs, sizedCells Wd A n c A' n' c' (sizes ds) = cs := ⟨_, rfl⟩
  have zc : cs.size = 23 := by rw [← hcs]; rfl
  have oc : cs.all (·.oneCell') = true := by rw [← hcs]; exact sizedCells_one _ _ _ _ _ _ _ _
  have OC := Lib.hid oc
  have HC := Lib.hid hcs
  have c1 := hcon ((w.alloc (.cells #[.int .i64 Wd, .slice A n c, .slice A' n' c'] 25)).alloc (.cells Z84 84)) (((Below.refl _ w).alloc (Nat.le_refl _) _).alloc (by simp) _)
  rw [hcs] at c1
  clear hcon hcs oc
  go_enter Try.func68, Try.ntmps68
  go_wp2_with (first | refine wpList_alloc84 rfl rfl ?_ | fail)
  refine c1.mono ?_
  rintro e w1 ⟨rfl, hb1⟩
  have hB : Below w.heap.size w w1 := bstep (((Below.refl _ w).alloc (Nat.le_refl _) _).alloc (by simp) _) (by simp; omega) hb1
  have h3 : w1.heap[w.heap.size + 1]? = some (.cells Z84 84 (0, 0)) := (hb1.block _ (by simp)).trans (row_last _ _ _ (by simp))
  have hst := store_last w1 w1.heap.size rfl Z84 cs zc Z84_size OC.out
  have hrow : (w1.alloc (.cells cs 84)).heap[w1.heap.size]? = some (.cells cs 84 (0, 0)) := row_last _ _ _ rfl
  have hs : IsSized (w1.alloc (.cells cs 84)) (w1.alloc (.cells cs 84)).heap.size w1.heap.size Wd A n c A' n' c' ss ds (sizes ds) :=
    ⟨by simp, by rw [HC.out]; exact hrow, (hb.kept (hB.alloc hB.size _) (Nat.le_refl _)).wider (by have := hB.size; simp; omega), hok, fun i => by have := sizes_bd' hok ds.length i; rw [List.take_length] at this; omega, fun i => by have := sizes_bd' hok ds.length i; rw [List.take_length] at this; omega⟩
  have H4 : Hid ((w1.alloc (.cells cs 84)).heap[w.heap.size + 1]? = some (.cells Z84 84 (0, 0))) := Lib.hid (row_alloc _ _ _ _ h3)
  have HRW := Lib.hid hrow
  have hz1 : w.heap.size + 2 ≤ w1.heap.size := by have := hb1.size; simpa using this
  clear h3 hb1 hrow
  have e1 : (one == two) = false := by simpa using hne
  have d1 := isPlace_any one hs
  have d2 := isPlace_any two hs
  rw [h1] at d1
  rw [h2] at d2
  clear hs h1 h2
  go_wp2_with (first | (go_at_call 93; refine d1.mono ?_; clear d1; rintro e w2 ⟨rfl, rfl⟩) | (go_at_call 93; refine d2.mono ?_; rintro e w2 ⟨rfl, rfl⟩) | refine wpList_alloc84 rfl rfl ?_ | refine wpList_build84_0 rfl rfl ?_ | refine wpList_store84 (.tmp 6) (.tmp 32) rfl rfl (w.heap.size + 1) rfl Z84 Z84 Z84_size Z84_size Z84_one rfl H4.out ?_)
  refine bodyPost_ret (v := .tuple #[.agg Z84, .int .i64 2]) (results_row_tmp rfl _ _ (w.heap.size + 1) Z84 _ rfl rfl Z84_size (row_setRow _ _ _ _ _ _ H4.out)) rfl ⟨rfl, below_setRow (hB.alloc hB.size _) (by omega) _⟩

set_option maxHeartbeats 1000000 in
theorem openedFor_ok (one two : Int) (hb : IsBath w w.heap.size A n c A' n' c' ss ds) (hok : bathErr Wd ss ds = 0) (hne : one ≠ two) (h1 : (decide (-2 ≤ one) && decide (one < (n : Int))) = true) (h2 : (decide (-2 ≤ two) && decide (two < (n : Int))) = true) :
    Calls Try.prog 68 #[.agg #[.int .i64 Wd, .slice A n c, .slice A' n' c'], .int .i64 one, .int .i64 two] w fun e w' => e = .returned (.tuple #[.agg (sizedCells Wd A n c A' n' c' (sizes ds)), .int .i64 0]) ∧ Below w.heap.size w w' := by
  have hcon : ∀ W, Below w.heap.size w W → _ := fun W hW => opened_ok (Wd := Wd) (c := c) (c' := c') ((hb.kept hW (Nat.le_refl _)).wider hW.size) hok
  obtain ⟨cs, hcs⟩ : ∃ cs, sizedCells Wd A n c A' n' c' (sizes ds) = cs := ⟨_, rfl⟩
  have zc : cs.size = 23 := by rw [← hcs]; rfl
  have oc : cs.all (·.oneCell') = true := by rw [← hcs]; exact sizedCells_one _ _ _ _ _ _ _ _
  have OC := Lib.hid oc
  have HC := Lib.hid hcs
  have c1 := hcon ((w.alloc (.cells #[.int .i64 Wd, .slice A n c, .slice A' n' c'] 25)).alloc (.cells Z84 84)) (((Below.refl _ w).alloc (Nat.le_refl _) _).alloc (by simp) _)
  rw [hcs] at c1 ⊢
  clear hcon hcs oc
  go_enter Try.func68, Try.ntmps68
  go_wp2_with (first | refine wpList_alloc84 rfl rfl ?_ | fail)
  refine c1.mono ?_
  rintro e w1 ⟨rfl, hb1⟩
  have hB : Below w.heap.size w w1 := bstep (((Below.refl _ w).alloc (Nat.le_refl _) _).alloc (by simp) _) (by simp; omega) hb1
  have h3 : w1.heap[w.heap.size + 1]? = some (.cells Z84 84 (0, 0)) := (hb1.block _ (by simp)).trans (row_last _ _ _ (by simp))
  have hst := store_last w1 w1.heap.size rfl Z84 cs zc Z84_size OC.out
  have hrow : (w1.alloc (.cells cs 84)).heap[w1.heap.size]? = some (.cells cs 84 (0, 0)) := row_last _ _ _ rfl
  have hs : IsSized (w1.alloc (.cells cs 84)) (w1.alloc (.cells cs 84)).heap.size w1.heap.size Wd A n c A' n' c' ss ds (sizes ds) :=
    ⟨by simp, by rw [HC.out]; exact hrow, (hb.kept (hB.alloc hB.size _) (Nat.le_refl _)).wider (by have := hB.size; simp; omega), hok, fun i => by have := sizes_bd' hok ds.length i; rw [List.take_length] at this; omega, fun i => by have := sizes_bd' hok ds.length i; rw [List.take_length] at this; omega⟩
  have H4 : Hid ((w1.alloc (.cells cs 84)).heap[w.heap.size + 1]? = some (.cells Z84 84 (0, 0))) := Lib.hid (row_alloc _ _ _ _ h3)
  have HRW := Lib.hid hrow
  have hz1 : w.heap.size + 2 ≤ w1.heap.size := by have := hb1.size; simpa using this
  clear h3 hb1 hrow
  have e1 : (one == two) = false := by simpa using hne
  have d1 := isPlace_any one hs
  have d2 := isPlace_any two hs
  rw [h1] at d1
  rw [h2] at d2
  clear hs h1 h2
  go_wp2_with (first | (go_at_call 93; refine d1.mono ?_; clear d1; rintro e w2 ⟨rfl, rfl⟩) | (go_at_call 93; refine d2.mono ?_; rintro e w2 ⟨rfl, rfl⟩) | refine wpList_alloc84 rfl rfl ?_ | refine wpList_load84 (.tmp 8) rfl rfl w1.heap.size rfl cs zc HRW.out ?_ | refine wpList_store84 (.tmp 6) (.tmp 33) rfl rfl (w.heap.size + 1) rfl cs Z84 zc Z84_size OC.out rfl H4.out ?_)
  refine bodyPost_ret (v := .tuple #[.agg cs, .int .i64 0]) (results_row_tmp rfl _ _ (w.heap.size + 1) cs _ rfl rfl zc (row_setRow _ _ _ _ _ _ H4.out)) rfl ⟨rfl, below_setRow (hB.alloc hB.size _) (by omega) _⟩

end
end Go.Proofs.Ytckndnaohggmhaa

/- Size and Touch. -/
namespace Go.Proofs.Ytckndnaohggmhaa
open Go.RowKit Go.Shelf

/-- What the functions with two places answer first. -/
def forErr (Wd : Int) (ss : List (Int × Int)) (ds : List (Int × Int × Int)) (one two : Int) : Int :=
  if bathErr Wd ss ds = 0 then
    if one ≠ two ∧ (decide (-2 ≤ one) && decide (one < (ss.length : Int))) = true ∧ (decide (-2 ≤ two) && decide (two < (ss.length : Int))) = true then 0 else 2
  else bathErr Wd ss ds

section
variable {w : World} {Wd : Int} {A : Option Addr} {n c : Nat} {A' : Option Addr} {n' c' : Nat} {ss : List (Int × Int)} {ds : List (Int × Int × Int)}

theorem isSized_new (hb : IsBath w w.heap.size A n c A' n' c' ss ds) (hok : bathErr Wd ss ds = 0) {w1 : World} (hB : Below w.heap.size w w1) :
    IsSized (w1.alloc (.cells (sizedCells Wd A n c A' n' c' (sizes ds)) 84)) (w1.alloc (.cells (sizedCells Wd A n c A' n' c' (sizes ds)) 84)).heap.size w1.heap.size Wd A n c A' n' c' ss ds (sizes ds) :=
  ⟨by simp, row_last _ _ _ rfl, (hb.kept (hB.alloc hB.size _) (Nat.le_refl _)).wider (by have := hB.size; simp; omega), hok, fun i => by have := sizes_bd' hok ds.length i; rw [List.take_length] at this; omega, fun i => by have := sizes_bd' hok ds.length i; rw [List.take_length] at this; omega⟩

theorem openedFor_err (one two : Int) (hb : IsBath w w.heap.size A n c A' n' c' ss ds) (he : forErr Wd ss ds one two ≠ 0) :
    Calls Try.prog 68 #[.agg #[.int .i64 Wd, .slice A n c, .slice A' n' c'], .int .i64 one, .int .i64 two] w fun e w' => e = .returned (.tuple #[.agg Z84, .int .i64 (forErr Wd ss ds one two)]) ∧ Below w.heap.size w w' := by
  unfold forErr at he ⊢
  rw [← hb.nss] at he ⊢
  by_cases hok : bathErr Wd ss ds = 0
  · rw [if_pos hok] at he ⊢
    by_cases h0 : one = two
    · rw [if_neg (by simp [h0])]
      exact openedFor_same one two hb hok h0
    · cases h1 : (decide (-2 ≤ one) && decide (one < (n : Int))) with
      | false =>
        rw [if_neg (by simp)]
        exact openedFor_no1 one two hb hok h0 h1
      | true =>
        cases h2 : (decide (-2 ≤ two) && decide (two < (n : Int))) with
        | false =>
          rw [if_neg (by simp)]
          exact openedFor_no2 one two hb hok h0 h1 h2
        | true => simp [h0, h1, h2] at he
  · rw [if_neg hok]
    exact openedFor_bad one two hb hok

theorem forErr_ok {one two : Int} (he : forErr Wd ss ds one two = 0) : bathErr Wd ss ds = 0 ∧ one ≠ two ∧ (-2 ≤ one ∧ one < (ss.length : Int)) ∧ (-2 ≤ two ∧ two < (ss.length : Int)) := by
  unfold forErr at he
  split at he
  · rename_i h0
    split at he
    · rename_i h1
      exact ⟨h0, h1.1, by simpa using h1.2.1, by simpa using h1.2.2⟩
    · simp at he
  · rename_i h0
    exact absurd he h0

theorem openedFor_fine (one two : Int) (hb : IsBath w w.heap.size A n c A' n' c' ss ds) (he : forErr Wd ss ds one two = 0) :
    Calls Try.prog 68 #[.agg #[.int .i64 Wd, .slice A n c, .slice A' n' c'], .int .i64 one, .int .i64 two] w fun e w' => e = .returned (.tuple #[.agg (sizedCells Wd A n c A' n' c' (sizes ds)), .int .i64 0]) ∧ Below w.heap.size w w' := by
  obtain ⟨h0, h1, h2, h3⟩ := forErr_ok he
  rw [← hb.nss] at h2 h3
  exact openedFor_ok one two hb h0 h1 (by simp [h2]) (by simp [h3])

/-- What Touch answers. -/
def touchAns (Wd : Int) (ss : List (Int × Int)) (ds : List (Int × Int × Int)) (one two : Int) : Int × Int :=
  if forErr Wd ss ds one two = 0 then (kindOf Wd ss (sizes ds) one two, 0) else (0, forErr Wd ss ds one two)

set_option maxHeartbeats 1000000 in
theorem touch_any (one two : Int) (hb : IsBath w w.heap.size A n c A' n' c' ss ds) :
    Calls Try.prog 21 #[.agg #[.int .i64 Wd, .slice A n c, .slice A' n' c'], .int .i64 one, .int .i64 two] w fun e w' => e = .returned (.tuple #[.int .i64 (touchAns Wd ss ds one two).1, .int .i64 (touchAns Wd ss ds one two).2]) ∧ Below w.heap.size w w' := by
  by_cases he : forErr Wd ss ds one two = 0
  · have ha : touchAns Wd ss ds one two = (kindOf Wd ss (sizes ds) one two, 0) := by unfold touchAns; rw [if_pos he]
    rw [ha]
    have c1 := openedFor_fine (w := w.alloc (.cells #[.int .i64 Wd, .slice A n c, .slice A' n' c'] 25)) one two ((hb.kept ((Below.refl _ w).alloc (Nat.le_refl _) _) (Nat.le_refl _)).wider (by simp)) he
    obtain ⟨h0, h1, h2, h3⟩ := forErr_ok he
    rw [← hb.nss] at h2 h3
    have hk : ∀ w1, Below w.heap.size w w1 → _ := fun w1 hB => kind_any one two h2.1 h2.2 h3.1 h3.2 h1 (isSized_new hb h0 hB)
    obtain ⟨k, hkk⟩ : ∃ k, kindOf Wd ss (sizes ds) one two = k := ⟨_, rfl⟩
    rw [hkk] at hk ⊢
    obtain ⟨cs, hcs⟩ : ∃ cs, sizedCells Wd A n c A' n' c' (sizes ds) = cs := ⟨_, rfl⟩
    have zc : cs.size = 23 := by rw [← hcs]; rfl
    have oc : cs.all (·.oneCell') = true := by rw [← hcs]; exact sizedCells_one _ _ _ _ _ _ _ _
    rw [hcs] at c1 hk
    have OC := Lib.hid oc
    clear hcs oc hkk ha he h1
    go_enter Try.func21, Try.ntmps21
    go_wp2_with fail
    refine c1.mono ?_
    rintro e w1 ⟨rfl, hb1⟩
    have hB : Below w.heap.size w w1 := bstep ((Below.refl _ w).alloc (Nat.le_refl _) _) (by simp) hb1
    have hst := store_last w1 w1.heap.size rfl Z84 cs zc Z84_size OC.out
    have c2 := hk w1 hB
    clear hk hb1
    go_wp2_with (first | refine wpList_alloc84 rfl rfl ?_ | (go_at_call 69; refine c2.mono ?_; rintro e w2 ⟨rfl, hb2⟩))
    go_ret2
    exact ⟨rfl, bstep (hB.alloc hB.size _) (by have := hB.size; simp; omega) hb2⟩
  · have ha : touchAns Wd ss ds one two = (0, forErr Wd ss ds one two) := by unfold touchAns; rw [if_neg he]
    rw [ha]
    have c1 := openedFor_err (w := w.alloc (.cells #[.int .i64 Wd, .slice A n c, .slice A' n' c'] 25)) one two ((hb.kept ((Below.refl _ w).alloc (Nat.le_refl _) _) (Nat.le_refl _)).wider (by simp)) he
    generalize forErr Wd ss ds one two = r at he c1 ⊢
    have hne : (r == 0) = false := by simpa using he
    have hne2 : (r != 0) = true := by simpa using he
    have zz := Z84_size
    clear ha
    go_enter Try.func21, Try.ntmps21
    go_wp2_with fail
    refine c1.mono ?_
    rintro e w1 ⟨rfl, hb1⟩
    have hB : Below w.heap.size w w1 := bstep ((Below.refl _ w).alloc (Nat.le_refl _) _) (by simp) hb1
    have hst := store_last w1 w1.heap.size rfl Z84 Z84 Z84_size Z84_size Z84_one
    clear hb1
    go_wp2_with (first | refine wpList_alloc84 rfl rfl ?_)
    go_ret2
    exact ⟨rfl, hB.alloc hB.size _⟩

/-- What Size answers. -/
def sizeAns (Wd : Int) (ss : List (Int × Int)) (ds : List (Int × Int × Int)) (spot : Int) : (Int × Int) × Int :=
  if bathErr Wd ss ds = 0 then if (decide (0 ≤ spot) && decide (spot < (ss.length : Int))) = true then (sizes ds spot.toNat, 0) else ((0, 0), 2) else ((0, 0), bathErr Wd ss ds)

end
end Go.Proofs.Ytckndnaohggmhaa

/- Size. -/
namespace Go.Proofs.Ytckndnaohggmhaa
open Go.RowKit Go.Shelf

theorem results_rng_tmp {fn : Func} {p q : Tmp} (h : fn.results = #[.cell p 29, .tmp q]) (tmps : Array Value) (w : World) (g : Nat) (lo hi : Int)
    (v : Value) (hp : tmps.getD p undef = .pointer (some ⟨g, 0, none⟩)) (hv : tmps.getD q undef = v) (hg : w.heap[g]? = some (.cells #[.int .i64 lo, .int .i64 hi] 29 (0, 0))) :
    (results fn tmps).run Try.prog w = .ok (.tuple #[.agg #[.int .i64 lo, .int .i64 hi], v]) w := by
  subst hv
  have hp' : tmps[p]?.getD undef = .pointer (some ⟨g, 0, none⟩) := by simpa using hp
  simp [results, h, hp', asAddr, run_loadVar_row (P := Try.prog) w g 29 29 #[.int .i64 lo, .int .i64 hi] (0, 0) _ hg Try.underlying29 rfl (by kernel_rfl)]

theorem wpList_store29 {ops : Array Oper} {rest : List Oper} {o : Oper} {a : Act} {w : World} {Q : Exit → Act → World → Prop} (x y : Operand) (hgd : o.guard = none) (ho : o.op = .store 29 x y) (g : Nat) (hx : a.eval x = .pointer (some ⟨g, 0, none⟩)) (lo hi lo' hi' : Int)
    (hy : a.eval y = .agg #[.int .i64 lo, .int .i64 hi]) (hg : w.heap[g]? = some (.cells #[.int .i64 lo', .int .i64 hi'] 29 (0, 0))) (h : wpList Try.prog ops Q rest (a.put o.dst undef) (w.setRow g #[.int .i64 lo, .int .i64 hi])) : wpList Try.prog ops Q (o :: rest) a w :=
  wpList_store_row hgd 29 x y ho g _ hx hy 29 _ hg (by kernel_rfl) rfl (by simp [Value.oneCell']) h

section
variable {w : World} {Wd : Int} {A : Option Addr} {n c : Nat} {A' : Option Addr} {n' c' : Nat} {ss : List (Int × Int)} {ds : List (Int × Int × Int)}

set_option maxHeartbeats 1000000 in
theorem size_any (spot : Int) (hb : IsBath w w.heap.size A n c A' n' c' ss ds) :
    Calls Try.prog 17 #[.agg #[.int .i64 Wd, .slice A n c, .slice A' n' c'], .int .i64 spot] w fun e w' => e = .returned (.tuple #[.agg #[.int .i64 (sizeAns Wd ss ds spot).1.1, .int .i64 (sizeAns Wd ss ds spot).1.2], .int .i64 (sizeAns Wd ss ds spot).2]) ∧ Below w.heap.size w w' := by
  have hp0 : Below w.heap.size w ((w.alloc (.cells #[.int .i64 Wd, .slice A n c, .slice A' n' c'] 25)).alloc (.cells #[.int .i64 0, .int .i64 0] 29)) := ((Below.refl _ w).alloc (Nat.le_refl _) _).alloc (by simp) _
  by_cases he : bathErr Wd ss ds = 0
  · have c1 := opened_ok (Wd := Wd) (c := c) (c' := c') ((hb.kept hp0 (Nat.le_refl _)).wider (by simp; omega)) he
    have hk : ∀ w1, Below w.heap.size w w1 → _ := fun w1 hB => isSpot_any spot (isSized_new hb he hB)
    obtain ⟨cs, hcs⟩ : ∃ cs, sizedCells Wd A n c A' n' c' (sizes ds) = cs := ⟨_, rfl⟩
    have zc : cs.size = 23 := by rw [← hcs]; rfl
    have oc : cs.all (·.oneCell') = true := by rw [← hcs]; exact sizedCells_one _ _ _ _ _ _ _ _
    have hfew := (bath_ok he).2.1.1
    rw [hcs] at c1 hk
    have OC := Lib.hid oc
    have HC := Lib.hid hcs
    clear hcs oc
    cases hq : (decide (0 ≤ spot) && decide (spot < (n : Int))) with
    | false =>
      have ha : sizeAns Wd ss ds spot = ((0, 0), 2) := by unfold sizeAns; rw [if_pos he, ← hb.nss, hq]; rfl
      rw [ha]
      rw [hq] at hk
      clear ha hq
      go_enter Try.func17, Try.ntmps17
      go_wp2_with fail
      refine c1.mono ?_
      rintro e w1 ⟨rfl, hb1⟩
      have hB : Below w.heap.size w w1 := bstep hp0 (by simp; omega) hb1
      have hst := store_last w1 w1.heap.size rfl Z84 cs zc Z84_size OC.out
      have c2 := hk w1 hB; clear hk
      have h3 : w1.heap[w.heap.size + 1]? = some (.cells #[.int .i64 0, .int .i64 0] 29 (0, 0)) := (hb1.block _ (by simp)).trans (row_last _ _ _ (by simp))
      have hz1 : w.heap.size + 2 ≤ w1.heap.size := by have := hb1.size; simpa using this
      have H3 : Hid ((w1.alloc (.cells cs 84)).heap[w.heap.size + 1]? = some (.cells #[.int .i64 0, .int .i64 0] 29 (0, 0))) := Lib.hid (row_alloc _ _ _ _ h3)
      clear hb1 h3
      go_wp2_with (first | refine wpList_alloc84 rfl rfl ?_ | refine wpList_store29 (.tmp 4) (.tmp 20) rfl rfl (w.heap.size + 1) rfl 0 0 0 0 rfl H3.out ?_ | (go_at_call 59; refine c2.mono ?_; rintro e w2 ⟨rfl, rfl⟩))
      refine bodyPost_ret (v := .tuple #[.agg #[.int .i64 0, .int .i64 0], .int .i64 2]) (results_rng_tmp rfl _ _ (w.heap.size + 1) 0 0 _ rfl rfl (row_setRow _ _ _ _ _ _ H3.out)) rfl ⟨rfl, below_setRow (hB.alloc hB.size _) (by omega) _⟩
    | true =>
      have hsp : 0 ≤ spot ∧ spot < n := by simpa using hq
      obtain ⟨i, rfl⟩ := Int.eq_ofNat_of_zero_le hsp.1
      have ha : sizeAns Wd ss ds (i : Int) = (sizes ds i, 0) := by unfold sizeAns; rw [if_pos he, ← hb.nss, hq]; rfl
      rw [ha]
      rw [hq] at hk
      have hi10 : i < 10 := by rw [hb.nss] at hsp; omega
      have hiz : (i : Int) < 10 := by omega
      have hcell : ∀ w1 : World, (w1.alloc (.cells cs 84)).cell? ⟨w1.heap.size, 3 + i * 2, none⟩ = some (.int .i64 (sizes ds i).1) ∧ (w1.alloc (.cells cs 84)).cell? ⟨w1.heap.size, 3 + i * 2 + 1, none⟩ = some (.int .i64 (sizes ds i).2) := fun w1 => by
        have hr := row_last w1 (.cells cs 84) _ rfl
        rw [cell_of_row _ _ _ _ _ _ hr, cell_of_row _ _ _ _ _ _ hr, ← HC.out]
        exact ⟨sizedCells_lo _ _ _ _ _ _ _ _ i hi10, sizedCells_hi _ _ _ _ _ _ _ _ i hi10⟩
      generalize sizes ds i = s at hcell ⊢
      clear ha hq hsp
      go_enter Try.func17, Try.ntmps17
      go_wp2_with fail
      refine c1.mono ?_
      rintro e w1 ⟨rfl, hb1⟩
      have hB : Below w.heap.size w w1 := bstep hp0 (by simp; omega) hb1
      have hst := store_last w1 w1.heap.size rfl Z84 cs zc Z84_size OC.out
      have c2 := hk w1 hB; clear hk; obtain ⟨l1, l2⟩ := hcell w1; clear hcell
      have h3 : w1.heap[w.heap.size + 1]? = some (.cells #[.int .i64 0, .int .i64 0] 29 (0, 0)) := (hb1.block _ (by simp)).trans (row_last _ _ _ (by simp))
      have hz1 : w.heap.size + 2 ≤ w1.heap.size := by have := hb1.size; simpa using this
      have H3 : Hid ((w1.alloc (.cells cs 84)).heap[w.heap.size + 1]? = some (.cells #[.int .i64 0, .int .i64 0] 29 (0, 0))) := Lib.hid (row_alloc _ _ _ _ h3)
      clear hb1 h3
      go_wp2_with (first | refine wpList_alloc84 rfl rfl ?_ | refine wpList_store29 (.tmp 4) (.tmp 24) rfl rfl (w.heap.size + 1) rfl s.1 s.2 0 0 rfl H3.out ?_ | (go_at_call 59; refine c2.mono ?_; rintro e w2 ⟨rfl, rfl⟩))
      refine bodyPost_ret (v := .tuple #[.agg #[.int .i64 s.1, .int .i64 s.2], .int .i64 0]) (results_rng_tmp rfl _ _ (w.heap.size + 1) s.1 s.2 _ rfl rfl (row_setRow _ _ _ _ _ _ H3.out)) rfl ⟨rfl, below_setRow (hB.alloc hB.size _) (by omega) _⟩
  · have ha : sizeAns Wd ss ds spot = ((0, 0), bathErr Wd ss ds) := by unfold sizeAns; rw [if_neg he]
    rw [ha]
    have c1 := opened_bad (Wd := Wd) (c := c) (c' := c') ((hb.kept hp0 (Nat.le_refl _)).wider (by simp; omega)) he
    generalize bathErr Wd ss ds = r at he c1 ⊢
    have hne : (r == 0) = false := by simpa using he
    have hne2 : (r != 0) = true := by simpa using he
    have zz := Z84_size
    clear ha
    go_enter Try.func17, Try.ntmps17
    go_wp2_with fail
    refine c1.mono ?_
    rintro e w1 ⟨rfl, hb1⟩
    have hB : Below w.heap.size w w1 := bstep hp0 (by simp; omega) hb1
    have hst := store_last w1 w1.heap.size rfl Z84 Z84 Z84_size Z84_size Z84_one
    skip
    have h3 : w1.heap[w.heap.size + 1]? = some (.cells #[.int .i64 0, .int .i64 0] 29 (0, 0)) := (hb1.block _ (by simp)).trans (row_last _ _ _ (by simp))
    have hz1 : w.heap.size + 2 ≤ w1.heap.size := by have := hb1.size; simpa using this
    have H3 : Hid ((w1.alloc (.cells Z84 84)).heap[w.heap.size + 1]? = some (.cells #[.int .i64 0, .int .i64 0] 29 (0, 0))) := Lib.hid (row_alloc _ _ _ _ h3)
    clear hb1 h3
    go_wp2_with (first | refine wpList_alloc84 rfl rfl ?_ | refine wpList_store29 (.tmp 4) (.tmp 15) rfl rfl (w.heap.size + 1) rfl 0 0 0 0 rfl H3.out ?_)
    refine bodyPost_ret (v := .tuple #[.agg #[.int .i64 0, .int .i64 0], .int .i64 r]) (results_rng_tmp rfl _ _ (w.heap.size + 1) 0 0 _ rfl rfl (row_setRow _ _ _ _ _ _ H3.out)) rfl ⟨rfl, below_setRow (hB.alloc hB.size _) (by omega) _⟩

end
end Go.Proofs.Ytckndnaohggmhaa
