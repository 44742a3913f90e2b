/- Texts of one package, joined: OpenSheet, Posts, RefApReg, ProvedReg, MorePure, AlonePure, MovedPure, MirPure, MirCount, MovedReg, MovedApp, MovedTail, MovedInv, Moved. -/
import Derived.Test.YtlaakmgdbhabfaaC11
import Derived.Test.YtlaakmgdbhabfaaC25
import Derived.ProofKit
import Derived.OpenShut
import Derived.Lib.SmallJoins
import Derived.Deep.Slices
/- A sheet, and a row, that come in as arguments: what their values are. -/
namespace Go.Proofs.Ytlaakmgdbhabfaa
open Go.ChangeShapes Go.WideShapes Go.ChangeAt Go.RowKit Go.Deep Go.Joins

section
variable {H : Type} {enc : TypeId × Value → H} {w : World} {base : Nat} {held : Bool}

theorem held_of_slice {α : Type} [Inhabited α] {k : Nat} {el : α → List Value} {t e : TypeId} {fuel : Nat} {cs : List Value} {x : DataW H × List MemPlace} (ht : Try.prog.underlying t = some (.slice e)) (hk : Try.prog.cellsOf e = k) (hk0 : 0 < k)
    (one : ∀ (m : Nat) (cs' : List Value) (y : DataW H × List MemPlace), DataW.trod enc Try.prog w base (fun _ => true) held m e cs' = some y → ∃ z : α, cs' = el z)
    (h : DataW.trod enc Try.prog w base (fun _ => true) held fuel t cs = some x) :
    ∃ A n c, ∃ xs : List α, cs = [.slice A n c] ∧ n = xs.length ∧ n ≤ c ∧ c ≤ maxLen ∧ Held w w.heap.size k el A xs := by
  rcases open_slice ht h with ⟨rfl, _⟩ | ⟨a, len, cap, m, n, D, Pl, rfl, _, hl, hm, hmm, _, hx⟩
  · exact ⟨none, 0, 0, [], rfl, rfl, Nat.le_refl _, Nat.zero_le _, .inl rfl⟩
  · simp only [if_true] at hmm
    rw [hk] at hx
    obtain ⟨z, hz⟩ := choose_lt (n := len) (p := fun i z => w.cells? base (a.add (i * k)) k = some (el z)) (fun i hi => by
      obtain ⟨cs', h1, h2⟩ := hx i (by omega)
      obtain ⟨z, rfl⟩ := one _ _ _ h2
      exact ⟨z, h1⟩)
    refine ⟨some a, len, cap, (List.range len).map z, rfl, by simp, hl, hm, ?_⟩
    by_cases h0 : len = 0
    · left
      subst h0
      rfl
    · right
      obtain ⟨b, off, spot⟩ := a
      obtain ⟨_, hlen0, hc0⟩ := World.cells?_some (hz 0 (by omega))
      have hfirst := hc0 0 hk0
      obtain ⟨v0, hv0⟩ : ∃ v0, (el (z 0))[0]? = some v0 := ⟨_, List.getElem?_eq_getElem (by omega)⟩
      rw [hv0] at hfirst
      have hspot : spot = none := by simpa [Addr.add] using World.cell?_spot hfirst
      subst hspot
      refine ⟨b, off, rfl, ?_, fun j x hj i v hi => ?_⟩
      · have := World.block_lt_of_cell? w _ hfirst
        simpa [Addr.add] using this
      · rw [List.getElem?_map, Option.map_eq_some_iff] at hj
        obtain ⟨j', hj', rfl⟩ := hj
        obtain ⟨hjl, hj'⟩ := List.getElem?_eq_some_iff.1 hj'
        simp only [List.getElem_range] at hj'
        subst hj'
        rw [List.length_range] at hjl
        obtain ⟨_, hlenj, hcj⟩ := World.cells?_some (hz j hjl)
        have hik : i < k := by
          have := (List.getElem?_eq_some_iff.1 hi).1
          omega
        have := hcj i hik
        rw [hi] at this
        rw [Addr.add_lit, Addr.add_lit] at this
        exact this

set_option maxRecDepth 100000 in
theorem kind_of_trod {m : Nat} {cs' : List Value} {y : DataW H × List MemPlace} {spare : Nat → Bool} (h : DataW.trod enc Try.prog w base spare held m 65 cs' = some y) : ∃ z : Int × Int, cs' = encS z := by
  obtain ⟨y0, y1, n, _, hl, h0, h1⟩ := trod_struct2 Try.underlying65 h
  rw [show Try.prog.cellsOf 65 = 2 from by kernel_rfl] at hl
  match cs', hl with
  | [c0, c1], _ =>
    simp only [show Try.prog.cellsOf 2 = 1 from by kernel_rfl, show Try.prog.cellsOf 3 = 1 from by kernel_rfl, List.drop_zero, List.take_succ_cons, List.take_zero, List.drop_succ_cons] at h0 h1
    obtain ⟨a, ha, _, _⟩ := DataW.trod_int Try.underlying2 h0
    obtain ⟨b, hb, _, _⟩ := DataW.trod_int Try.underlying3 h1
    simp only [List.cons.injEq, and_true] at ha hb
    subst ha hb
    exact ⟨(a, b), rfl⟩
set_option maxRecDepth 100000 in
theorem range_of_trod {m : Nat} {cs' : List Value} {y : DataW H × List MemPlace} {spare : Nat → Bool} (h : DataW.trod enc Try.prog w base spare held m 75 cs' = some y) : ∃ z : Int × Int, cs' = encS z := by
  obtain ⟨y0, y1, n, _, hl, h0, h1⟩ := trod_struct2 Try.underlying75 h
  rw [show Try.prog.cellsOf 75 = 2 from by kernel_rfl] at hl
  match cs', hl with
  | [c0, c1], _ =>
    simp only [show Try.prog.cellsOf 2 = 1 from by kernel_rfl, List.drop_zero, List.take_succ_cons, List.take_zero, List.drop_succ_cons] at h0 h1
    obtain ⟨a, ha, _, _⟩ := DataW.trod_int Try.underlying2 h0
    obtain ⟨b, hb, _, _⟩ := DataW.trod_int Try.underlying2 h1
    simp only [List.cons.injEq, and_true] at ha hb
    subst ha hb
    exact ⟨(a, b), rfl⟩
set_option maxRecDepth 100000 in
theorem open_sheet {r : Reach} {b0 : Nat} {v : Value} {d : DataW H} {p : List MemPlace} (hv : Value.okWide Try.prog w r b0 25 v) (h : DataW.Trod enc Try.prog w base (fun _ => true) held 25 v d p) :
    ∃ A n c A' n' c' cs ms, v = .agg #[.slice A n c, .slice A' n' c'] ∧ IsSheet w w.heap.size A n c A' n' c' cs ms := by
  obtain ⟨c1, c2, y1, y2, m, rfl, _, _, h1, h2⟩ := open_agg2 Try.underlying25 (by kernel_rfl) (by kernel_rfl) hv h
  obtain ⟨A, n, c, cs, hA, hn, hc, hcm, hh⟩ := held_of_slice (el := encS) (k := 2) Try.underlying22 (by kernel_rfl) (by omega) (fun _ _ _ h => kind_of_trod h) h1
  obtain ⟨A', n', c', ms, hA', hn', hc', hcm', hh'⟩ := held_of_slice (el := encS) (k := 2) Try.underlying23 (by kernel_rfl) (by omega) (fun _ _ _ h => range_of_trod h) h2
  simp only [List.cons.injEq, and_true] at hA hA'
  subst hA hA'
  have hm : maxLen ≤ 9223372036854775807 := by unfold maxLen; omega
  exact ⟨A, n, c, A', n', c', cs, ms, rfl, hn, hn', by omega, by omega, hc, hc', hh, hh'⟩
end
end Go.Proofs.Ytlaakmgdbhabfaa

/- What the functions hand over, as slices that are held. -/
namespace Go.Proofs.Ytlaakmgdbhabfaa
open Go.RowKit Go.Shelf
attribute [local irreducible] bitCells fitCells Z94 fitOf

theorem owns_bound {W : World} {base : Nat} {e : TypeId} {size n : Nat} {v : Value} {xs : List Value} (h : W.ownsRow base e size v n xs) : n ≤ 9223372036854775807 := by
  rcases h.2 with ⟨_, h1⟩ | ⟨_, cap, _, _, _, _, h1, h2, _⟩
  · omega
  · unfold maxLen at h2; omega
theorem post_longs {cs ms : List (Int × Int)} {err : Int} {xs : List Int} {w w' : World} {e : Ending} (h : SheetPost cs ms err (fun B w' v => MadeLongs B xs w' v) w e w') :
    Ext w w' ∧ ∃ A m c, e = .returned (.tuple #[.slice A m c, .int .i64 err]) ∧ m = (if err = 0 then xs else []).length ∧ m ≤ 9223372036854775807 ∧ Held w' w'.heap.size 1 encI A (if err = 0 then xs else []) := by
  obtain ⟨hE, ⟨hne, rfl⟩ | ⟨h0, v, rfl, hM⟩⟩ := h
  · rw [if_neg hne]
    exact ⟨hE, none, 0, 0, rfl, rfl, by omega, .inl rfl⟩
  · subst h0
    rw [if_pos rfl]
    obtain ⟨A, c, rfl⟩ := made_slice2 hM
    exact ⟨hE, A, _, c, rfl, rfl, owns_bound hM.1, longs_held hM rfl⟩
end Go.Proofs.Ytlaakmgdbhabfaa

/- CheckApart of the reference: its region with calls; fine. -/
namespace Go.Proofs.Ytlaakmgdbhabfaa
open Go.RowKit Go.Shelf

/-- Marks as bits. -/
def marksNo (js : List Nat) : Nat := js.foldl (fun a j => a ||| 2 ^ j) 0
set_option maxRecDepth 100000 in
set_option maxHeartbeats 1000000 in
theorem fine_any {A : Option Addr} {n c : Nat} {A' : Option Addr} {n' c' : Nat} {cs ms : List (Int × Int)} {w : World} (hb : IsSheet w w.heap.size A n c A' n' c' cs ms) :
    Calls Try.prog 39 #[.agg #[.slice A n c, .slice A' n' c']] w fun e w' => e = .returned (.bool (decide (sheetErr cs ms = 0))) ∧ Ext w w' := by
  have hX0 := SheetAt.new hb
  have hE0 : Ext w (w.alloc (.cells #[.slice A n c, .slice A' n' c'] 25)) := ext_alloc w _
  have hgt : (decide (12 < n) || decide (18 < n')) = true → ¬ sheetErr cs ms = 0 := fun h h0 => by
    have h1 := (sheet_ok h0).1
    rw [← hb.ncs, ← hb.nms] at h1
    simp at h
    omega
  have HX := Lib.hid hX0
  have HE := Lib.hid hE0
  have h15 := great_any A A' n c n' c' (w.alloc (.cells #[.slice A n c, .slice A' n' c'] 25))
  clear hb hX0 hE0
  obtain ⟨gr, hgr⟩ : ∃ gr, (decide (12 < n) || decide (18 < n')) = gr := ⟨_, rfl⟩
  rw [hgr] at h15 hgt
  clear hgr
  obtain ⟨w0, hw0⟩ : ∃ w0, w.alloc (.cells #[.slice A n c, .slice A' n' c'] 25) = w0 := ⟨_, rfl⟩
  obtain ⟨r, hr⟩ : ∃ r, sheetErr cs ms = r := ⟨_, rfl⟩
  have HR := Lib.hid hr
  rw [hr] at hgt ⊢
  clear hr
  obtain ⟨q0, q1⟩ := HX.out.cells
  rw [hw0] at HX HE h15 q0 q1
  cases gr with
  | true =>
    have h0 := hgt rfl
    rw [decide_eq_false h0]
    go_enter Try.func39, Try.ntmps39
    go_wp2_with fail
    try rw [hw0]
    refine h15.mono ?_
    rintro e w1 ⟨rfl, e1⟩
    have HE := Lib.hid (HE.out.trans (show Ext w0 w1 from e1))
    clear e1 h15 hw0
    go_wp2
    go_ret
    exact ⟨rfl, HE.out⟩
  | false =>
    clear hgt
    go_enter Try.func39, Try.ntmps39
    go_wp2_with fail
    try rw [hw0]
    refine h15.mono ?_
    rintro e w1 ⟨rfl, e1⟩
    have e1 : Ext w0 w1 := e1
    have HX := Lib.hid (HX.out.ext e1)
    have HE := Lib.hid (HE.out.trans e1)
    clear e1 h15 hw0 q0 q1
    obtain ⟨q0, q1⟩ := HX.out.cells
    have h24 := refSheet_any HX.out.sheet
    rw [HR.out] at h24
    go_wp2_with fail
    refine h24.mono ?_
    rintro e w2 ⟨rfl, e2⟩
    have HE := Lib.hid (HE.out.trans e2)
    clear e2 h24
    by_cases h0 : r = 0
    · subst h0
      go_wp2
      go_ret
      exact ⟨ret_bool (by simp), HE.out⟩
    · have h0b : (r == 0) = false := by simpa using h0
      go_wp2
      go_ret
      exact ⟨ret_bool (by simp [h0]), HE.out⟩

/-- The slots of region 14 of function 31. -/
def ra14D (i : Nat) : Tmp := if i = 0 then 66 else if i = 1 then 67 else if i = 2 then 68 else if i = 3 then 69 else if i = 4 then 70 else if i = 5 then 71 else if i = 6 then 72 else if i = 7 then 73 else if i = 8 then 74 else if i = 9 then 75 else 76
/-- What each operation yields. -/
def ra14S (_p : Nat) (A : Option Addr) (n c : Nat) (A' : Option Addr) (n' c' g ln cl jj kk zz bt cn : Nat) (x : Int) (cb : Bool) (ix : Nat) (v : Value) (_W : World) : Prop :=
  match ix with
  | 0 => v = .agg #[.slice A n c, .slice A' n' c']
  | 1 => v = .slice (some ⟨g, 0, none⟩) ln cl
  | 2 => v = .int .i64 (jj : Int)
  | 3 => v = .pointer (some ⟨g, jj * 2, none⟩)
  | 4 => v = .agg #[.int .i64 (kk : Int), .int .i64 x]
  | 5 => v = .int .i64 (bt : Int)
  | 6 => v = .int .i64 (zz : Int)
  | 7 => v = .int .i64 ((bt &&& zz : Nat) : Int)
  | 8 => ∃ A9 c9, v = .slice A9 cn c9
  | 9 => v = .int .i64 (cn : Int)
  | 10 => v = .bool cb
  | _ => True
noncomputable def ra14Reg : Array Oper := (Try.f31.body.bind (regionOf · 14)).getD #[]
def ra14Ok (p : Nat) (A : Option Addr) (n c : Nat) (A' : Option Addr) (n' c' g ln cl jj kk zz bt cn : Nat) (x : Int) (cb : Bool) (Q : Exit → Act → World → Prop) (a : Act) (W : World) (ix : Nat) (o : Oper) : Prop :=
  (∀ j b, o.guard = some (j, b) → a.eval (.tmp (ra14D j)) = .bool b) ∧ o.wp Try.prog a W (fun a'' W' => ∃ v, a'' = a.put o.dst v ∧ ra14S p A n c A' n' c' g ln cl jj kk zz bt cn x cb ix v W' ∧ Below W.heap.size W W') Q
section
variable {p : Nat} {A : Option Addr} {n c : Nat} {A' : Option Addr} {n' c' g ln cl jj kk zz bt cn : Nat} {x : Int} {cb : Bool} {Q : Exit → Act → World → Prop} {a : Act} {V W : World} {o : Oper}
end
end Go.Proofs.Ytlaakmgdbhabfaa

/- CombProved: its drawn region; what Best and Apart hand over. -/
namespace Go.Proofs.Ytlaakmgdbhabfaa
open Go.RowKit Go.Shelf
attribute [local irreducible] bitCells fitCells Z94 fitOf

theorem flat_rwInt (r : List Rw) : r.flatMap encRw = (r.map rwInt).flatMap encS := by
  rw [List.flatMap_map]
  rfl
/-- What Best hands over. -/
theorem post_best {cs ms : List (Int × Int)} {w w' : World} {e : Ending} (h : Ext w w' ∧ ((wholeErr cs ms ≠ 0 ∧ e = .returned (.tuple #[.slice none 0 0, .int .i64 (wholeErr cs ms)])) ∨
      (wholeErr cs ms = 0 ∧ ∃ g, e = .returned (.tuple #[.slice (some ⟨g, 0, none⟩) (bestRows cs ms).length (bestRows cs ms).length, .int .i64 0]) ∧ w.heap.size ≤ g ∧ w'.heap[g]? = some (.cells ((bestRows cs ms).flatMap encRw).toArray 27 (0, 0))))) :
    Ext w w' ∧ ∃ A m c, e = .returned (.tuple #[.slice A m c, .int .i64 (wholeErr cs ms)]) ∧ m = (if wholeErr cs ms = 0 then (bestRows cs ms).map rwInt else []).length ∧ m ≤ 12 ∧ Held w' w'.heap.size 2 encS A (if wholeErr cs ms = 0 then (bestRows cs ms).map rwInt else []) := by
  obtain ⟨hE, ⟨hne, rfl⟩ | ⟨h0, g, rfl, _, hr⟩⟩ := h
  · rw [if_neg hne]
    exact ⟨hE, none, 0, 0, rfl, rfl, by omega, .inl rfl⟩
  · rw [if_pos h0, h0]
    have hf := best_few h0
    have hm := (sheet_ok (best_is h0).1).1.2.2
    refine ⟨hE, _, _, _, rfl, (List.length_map _).symm, by omega, held_row hr ?_⟩
    rw [flat_rwInt]
theorem nums_of_nats {w : World} {B : Nat} {A : Option Addr} {js : List Nat} (h : Held w B 1 encN A js) : Held w B 1 encI A (js.map fun j : Nat => (j : Int)) := by
  rcases h with rfl | ⟨b, off, rfl, hlt, hc⟩
  · exact .inl rfl
  · refine .inr ⟨b, off, rfl, hlt, fun j y hy i v hv => ?_⟩
    rw [List.getElem?_map] at hy
    obtain ⟨x, hxx, rfl⟩ := Option.map_eq_some_iff.1 hy
    exact hc j x hxx i v hv
/-- What Apart hands over. -/
theorem post_apart {cs ms : List (Int × Int)} {w w' : World} {e : Ending} (h0 : sheetErr cs ms = 0) (h : Ext w w' ∧ ∃ v, e = .returned (.tuple #[v, .int .i64 (sheetErr cs ms)]) ∧ LsAt (if sheetErr cs ms = 0 then apartTo cs ms ms.length else []) v w') :
    Ext w w' ∧ ∃ A m c, e = .returned (.tuple #[.slice A m c, .int .i64 0]) ∧ m = (apartTo cs ms ms.length).length ∧ m ≤ 12 ∧ Held w' w'.heap.size 1 encI A ((apartTo cs ms ms.length).map fun j : Nat => (j : Int)) := by
  obtain ⟨hE, v, rfl, hv⟩ := h
  rw [if_pos h0] at hv
  obtain ⟨A, c, rfl, _, _, hh⟩ := hv
  rw [h0]
  refine ⟨hE, A, _, c, rfl, rfl, ?_, nums_of_nats hh⟩
  have := (apartTo_ok cs ms ms.length).2.2.2
  have := (sheet_ok h0).1.2.2
  omega
theorem whole_cases {cs ms : List (Int × Int)} (h0 : sheetErr cs ms = 0) : wholeErr cs ms = 0 ∨ wholeErr cs ms = 19 := by
  unfold wholeErr
  rw [if_pos h0]
  split
  · exact .inl rfl
  · exact .inr rfl

/-- The slots of region 5 of function 7. -/
def pv5D (i : Nat) : Tmp := if i = 0 then 37 else if i = 1 then 38 else if i = 2 then 39 else if i = 3 then 40 else if i = 4 then 41 else if i = 5 then 42 else if i = 6 then 11 else 12
/-- What each operation yields. -/
def pv5S (_p : Nat) (A : Option Addr) (n c : Nat) (A' : Option Addr) (n' c' : Nat) (vr vm : Value) (G HH : Int) (ix : Nat) (v : Value) (_W : World) : Prop :=
  match ix with
  | 0 => v = .agg #[.slice A n c, .slice A' n' c']
  | 1 => v = vr
  | 2 => v = .int .i64 G
  | 3 => v = .agg #[.slice A n c, .slice A' n' c']
  | 4 => v = vm
  | 5 => v = .int .i64 HH
  | 6 => v = .int .i64 G
  | 7 => v = .int .i64 HH
  | _ => True
noncomputable def pv5Reg : Array Oper := (Try.f7.body.bind (regionOf · 5)).getD #[]
def pv5Ok (p : Nat) (A : Option Addr) (n c : Nat) (A' : Option Addr) (n' c' : Nat) (vr vm : Value) (G HH : Int) (Q : Exit → Act → World → Prop) (a : Act) (W : World) (ix : Nat) (o : Oper) : Prop :=
  (∀ j b, o.guard = some (j, b) → a.eval (.tmp (pv5D j)) = .bool b) ∧ o.wp Try.prog a W (fun a'' W' => ∃ v, a'' = a.put o.dst v ∧ pv5S p A n c A' n' c' vr vm G HH ix v W' ∧ Below W.heap.size W W') Q
section
variable {p : Nat} {A : Option Addr} {n c : Nat} {A' : Option Addr} {n' c' : Nat} {vr vm : Value} {G HH : Int} {Q : Exit → Act → World → Prop} {a : Act} {V W : World} {o : Oper}
end
end Go.Proofs.Ytlaakmgdbhabfaa

/- One comb more, in plain mathematics; fewest of the statements. -/
namespace Go.Proofs.Ytlaakmgdbhabfaa
open Go.RowKit Go.Shelf
attribute [local irreducible] bitCells fitCells Z94 fitOf

/-- What fewest of the statements says. -/
def fewOf (cs ms : List (Int × Int)) : Nat := if wholeErr cs ms = 0 then (bestRows cs ms).length else 100
set_option maxRecDepth 100000 in
set_option maxHeartbeats 2000000 in
theorem few47_any {A : Option Addr} {n c : Nat} {A' : Option Addr} {n' c' : Nat} {cs ms : List (Int × Int)} {w : World} (hb : IsSheet w w.heap.size A n c A' n' c' cs ms) (h0 : sheetErr cs ms = 0) :
    Calls Try.prog 47 #[.agg #[.slice A n c, .slice A' n' c']] w fun e w' => e = .returned (.tuple #[.int .i64 ((fewOf cs ms : Nat) : Int), .bool true]) ∧ Ext w w' := by
  obtain ⟨F, hF⟩ : ∃ F, fewOf cs ms = F := ⟨_, rfl⟩
  rw [hF]
  have HF := Lib.hid hF
  have hX0 := SheetAt.new hb
  have hE0 : Ext w (w.alloc (.cells #[.slice A n c, .slice A' n' c'] 25)) := ext_alloc w _
  have h40 := best_any hX0.sheet
  have HX := Lib.hid hX0
  have HE := Lib.hid hE0
  have H0 := Lib.hid h0
  clear hb hF hX0 hE0 h0
  obtain ⟨q0, q1⟩ := HX.out.cells
  go_enter Try.func47, Try.ntmps47
  go_wp2_with fail
  refine h40.mono ?_
  intro e w2 hp2
  obtain ⟨e2, A3, m3, c3, rfl, hm3, hl3, -⟩ := post_best hp2
  have HE := Lib.hid (HE.out.trans e2)
  have hf := HF.out
  unfold fewOf at hf
  rcases whole_cases H0.out with hw | hw
  · rw [if_pos hw] at hf hm3
    rw [hw]
    rw [List.length_map, hf] at hm3
    subst hm3
    clear e2 h40 q0 q1 hp2 hw hf HF
    go_wp2
    go_ret2
    exact ⟨rfl, HE.out⟩
  · rw [if_neg (by rw [hw]; decide)] at hf hm3
    rw [hw]
    have hm30 : m3 = 0 := hm3
    subst hm30
    subst hf
    clear e2 h40 q0 q1 hp2 hw hm3 HF
    go_wp2
    go_ret2
    exact ⟨rfl, HE.out⟩
end Go.Proofs.Ytlaakmgdbhabfaa

/- A sheet without one mark, in plain mathematics. -/
namespace Go.Proofs.Ytlaakmgdbhabfaa
open Go.RowKit Go.Shelf
attribute [local irreducible] bitCells fitCells Z94 fitOf

/-- The mark that a mark of the lesser sheet was. -/
def oldNo (k i : Nat) : Nat := if i < k then i else i + 1
section
variable {cs ms : List (Int × Int)} {k : Nat}
theorem hit_in {v : Int} (h : hitOf ms v < ms.length) : inMark v ms[hitOf ms v] = true := List.findIdx_getElem (w := h)
theorem fits_iff (h0 : sheetErr cs ms = 0) (x : Rw) : x ∈ fitsOf cs ms ↔ x.1 < cs.length ∧ (0 ≤ x.2 ∧ x.2 ≤ 500) ∧ ∃ i, i < ms.length ∧ hadB cs ms x.1 x.2 i = true := by
  have h12 := (sheet_ok h0).1.2.2
  constructor
  · intro hx
    obtain ⟨h1, h2, _, h4⟩ := fits_mem h0 hx
    refine ⟨h1, h2, ?_⟩
    obtain ⟨i, hi⟩ := Nat.exists_testBit_of_ne_zero h4
    rw [noOf_bit, Bool.and_eq_true] at hi
    exact ⟨i, had_lt hi.2, hi.2⟩
  · rintro ⟨h1, h2, i, hi, hb⟩
    unfold fitsOf fitsUpto
    refine List.mem_flatMap.2 ⟨x.1, List.mem_range.2 h1, ?_⟩
    rw [rows_pairs h0 h1]
    refine List.mem_map.2 ⟨x.2, ?_, rfl⟩
    unfold atsOf
    refine (mem_nums _ _ _).2 ⟨x.2.toNat, by omega, ?_, by omega⟩
    unfold fitB
    rw [show ((x.2.toNat : Nat) : Int) = x.2 from by omega, bits_no h12 h2, decide_eq_true_eq]
    intro e
    have : (noOf cs ms (x.1, x.2)).testBit i = true := by
      rw [noOf_bit, hb, Bool.and_true, decide_eq_true_eq]
      omega
    rw [e, Nat.zero_testBit] at this
    cases this
/-- Whoever has the mark k has it alone. -/
def AloneAt (cs ms : List (Int × Int)) (k : Nat) : Prop := ∀ x, x ∈ fitsOf cs ms → hadB cs ms x.1 x.2 k = true → ∀ i, i < ms.length → hadB cs ms x.1 x.2 i = true → i = k
theorem covers_iff (h12 : ms.length ≤ 12) (l : List Rw) : Cov (noOf cs ms) l (2 ^ ms.length - 1) ↔ ∀ i, i < ms.length → ∃ x, x ∈ l ∧ hadB cs ms x.1 x.2 i = true := by
  constructor
  · intro h i hi
    obtain ⟨x, hx, hb⟩ := h i (by rw [all_bit]; simpa using hi)
    rw [noOf_bit, Bool.and_eq_true] at hb
    exact ⟨x, hx, hb.2⟩
  · intro h i hi
    rw [all_bit, decide_eq_true_eq] at hi
    obtain ⟨x, hx, hb⟩ := h i hi
    exact ⟨x, hx, by rw [noOf_bit, hb, Bool.and_true, decide_eq_true_eq]; omega⟩
theorem whole_of (h0 : sheetErr cs ms = 0) {l : List Rw} (hl : ∀ x, x ∈ l → x ∈ fitsOf cs ms) (hc : Cov (noOf cs ms) l (2 ^ ms.length - 1)) : wholeErr cs ms = 0 := by
  have hm := (sheet_ok h0).1.2.2
  unfold wholeErr
  rw [if_pos h0, if_pos]
  refine (cov_all hm _).1 fun i hi => ?_
  obtain ⟨x, hx, hb⟩ := hc i hi
  exact ⟨x, hl x hx, hb⟩
end
end Go.Proofs.Ytlaakmgdbhabfaa

/- A sheet all of whose marks are moved by one number, in plain mathematics. -/
namespace Go.Proofs.Ytlaakmgdbhabfaa
open Go.RowKit Go.Shelf
attribute [local irreducible] bitCells fitCells Z94 fitOf

def moveBy (d : Int) (ms : List (Int × Int)) : List (Int × Int) := ms.map fun m => (m.1 + d, m.2 + d)
theorem move_len (d : Int) (ms : List (Int × Int)) : (moveBy d ms).length = ms.length := by simp [moveBy]
theorem inMark_move (d v : Int) (m : Int × Int) : inMark (v + d) (m.1 + d, m.2 + d) = inMark v m := by
  simp [inMark, inside]
theorem hit_move (d v : Int) (ms : List (Int × Int)) : hitOf (moveBy d ms) (v + d) = hitOf ms v := by
  unfold hitOf moveBy
  rw [List.findIdx_map]
  congr 1
  funext m
  exact inMark_move d v m
theorem had_move (cs ms : List (Int × Int)) (d : Int) (k : Nat) (x : Int) : hadB cs (moveBy d ms) k (x + d) = hadB cs ms k x := by
  funext i
  unfold hadB hitsTo hadTo
  rw [move_len]
  have e : ∀ t : Nat, hitOf (moveBy d ms) (x + d + t * (cs.getD k (0, 0)).1) = hitOf ms (x + t * (cs.getD k (0, 0)).1) := fun t => by
    rw [show x + d + t * (cs.getD k (0, 0)).1 = x + t * (cs.getD k (0, 0)).1 + d from by omega]
    exact hit_move d _ ms
  simp only [e]
def moveRow (d : Int) (x : Rw) : Rw := (x.1, x.2 + d)
theorem no_move (cs ms : List (Int × Int)) (d : Int) (x : Rw) : noOf cs (moveBy d ms) (moveRow d x) = noOf cs ms x := by
  unfold noOf moveRow
  rw [had_move]
theorem rowsIn_move (cs ms : List (Int × Int)) (d : Int) (k : Nat) (m : Int × Int) (i : Nat) : rowsIn cs (moveBy d ms) k (m.1 + d, m.2 + d) i = (rowsIn cs ms k m i).map (moveRow d) := by
  unfold rowsIn
  rw [List.map_filterMap]
  congr 1
  funext t
  dsimp only
  rw [show m.1 + d + (t : Int) = m.1 + (t : Int) + d from by omega, had_move]
  split <;> simp [moveRow]
theorem rowsUpto_move (cs ms : List (Int × Int)) (d : Int) (k : Nat) : ∀ j, j ≤ ms.length → rowsUpto cs (moveBy d ms) k j = (rowsUpto cs ms k j).map (moveRow d)
  | 0, _ => rfl
  | j + 1, hj => by
    rw [rowsUpto_succ, rowsUpto_succ, List.map_append, rowsUpto_move cs ms d k j (by omega)]
    have e : (moveBy d ms).getD j (0, 0) = ((ms.getD j (0, 0)).1 + d, (ms.getD j (0, 0)).2 + d) := by
      simp [moveBy, List.getD_eq_getElem?_getD, List.getElem?_map, List.getElem?_eq_getElem (show j < ms.length by omega)]
    rw [e, rowsIn_move]
    dsimp only
    rw [show (ms.getD j (0, 0)).2 + d - ((ms.getD j (0, 0)).1 + d) + 1 = (ms.getD j (0, 0)).2 - (ms.getD j (0, 0)).1 + 1 from by omega]
theorem fitsUpto_move (cs ms : List (Int × Int)) (d : Int) : ∀ k, fitsUpto cs (moveBy d ms) k = (fitsUpto cs ms k).map (moveRow d)
  | 0 => rfl
  | k + 1 => by
    rw [fits_succ, fits_succ, List.map_append, fitsUpto_move cs ms d k, move_len, rowsUpto_move cs ms d k _ (Nat.le_refl _)]
/-- The rows that fit move with the marks. -/
theorem fits_move (cs ms : List (Int × Int)) (d : Int) : fitsOf cs (moveBy d ms) = (fitsOf cs ms).map (moveRow d) := fitsUpto_move cs ms d cs.length
theorem noneHas_move (cs ms : List (Int × Int)) (d : Int) (l : List Rw) (i : Nat) : noneHas cs (moveBy d ms) (l.map (moveRow d)) i = noneHas cs ms l i := by
  unfold noneHas
  rw [List.all_map]
  congr 1
  funext x
  simp only [Function.comp, moveRow, had_move]
theorem lost_move (cs ms : List (Int × Int)) (d : Int) : lostOf cs (moveBy d ms) = lostOf cs ms := by
  unfold lostOf
  rw [move_len, fits_move]
  congr 1
  funext i
  exact noneHas_move cs ms d _ i
theorem nos_move (cs ms : List (Int × Int)) (d : Int) : allNos cs (moveBy d ms) = allNos cs ms := by
  unfold allNos
  rw [fits_move, List.map_map]
  congr 1
  funext x
  exact no_move cs ms d x
theorem whole_move {cs ms : List (Int × Int)} {d : Int} (h0 : sheetErr cs ms = 0) (h0' : sheetErr cs (moveBy d ms) = 0) : wholeErr cs (moveBy d ms) = wholeErr cs ms := by
  unfold wholeErr
  rw [if_pos h0, if_pos h0', lost_move]
theorem cov_move {cs ms : List (Int × Int)} (d : Int) (l : List Rw) (s : Nat) : Cov (noOf cs (moveBy d ms)) (l.map (moveRow d)) s ↔ Cov (noOf cs ms) l s := by
  constructor
  · intro h i hi
    obtain ⟨x, hx, hb⟩ := h i hi
    obtain ⟨y, hy, rfl⟩ := List.mem_map.1 hx
    exact ⟨y, hy, by rw [no_move] at hb; exact hb⟩
  · intro h i hi
    obtain ⟨x, hx, hb⟩ := h i hi
    exact ⟨_, List.mem_map_of_mem hx, by rw [no_move]; exact hb⟩
theorem move_back (d : Int) (ms : List (Int × Int)) : moveBy (-d) (moveBy d ms) = ms := by
  unfold moveBy
  rw [List.map_map]
  conv => rhs; rw [← List.map_id ms]
  apply List.map_congr_left
  intro m _
  simp only [Function.comp, id]
  rw [show m.1 + d + -d = m.1 from by omega, show m.2 + d + -d = m.2 from by omega]
theorem few_move_le {cs ms : List (Int × Int)} {d : Int} (h0 : sheetErr cs ms = 0) (h0' : sheetErr cs (moveBy d ms) = 0) (hw : wholeErr cs ms = 0) : (bestRows cs (moveBy d ms)).length ≤ (bestRows cs ms).length := by
  obtain ⟨_, r, _, _, hp, r1, r2, _, _⟩ := best_is hw
  have hw' : wholeErr cs (moveBy d ms) = 0 := by rw [whole_move h0 h0', hw]
  obtain ⟨_, r', _, _, hp', _, _, _, s3⟩ := best_is hw'
  rw [hp.length_eq, hp'.length_eq]
  have := s3 (r.map (moveRow d)) (fun x hx => by
    obtain ⟨y, hy, rfl⟩ := List.mem_map.1 hx
    rw [fits_move]
    exact List.mem_map_of_mem (r1 y hy)) (by rw [move_len]; exact (cov_move d r _).2 r2)
  rwa [List.length_map] at this
/-- Best rows are as many. -/
theorem few_move {cs ms : List (Int × Int)} {d : Int} (h0 : sheetErr cs ms = 0) (h0' : sheetErr cs (moveBy d ms) = 0) : fewOf cs (moveBy d ms) = fewOf cs ms := by
  unfold fewOf
  rw [whole_move h0 h0']
  by_cases hw : wholeErr cs ms = 0
  · rw [if_pos hw, if_pos hw]
    have h1 := few_move_le h0 h0' hw
    have h2 := few_move_le (d := -d) h0' (by rw [move_back]; exact h0) (by rw [whole_move h0 h0', hw])
    rw [move_back] at h2
    omega
  · rw [if_neg hw, if_neg hw]
theorem apartB_move (cs ms : List (Int × Int)) (d : Int) : apartB cs (moveBy d ms) = apartB cs ms := by
  funext js
  unfold apartB
  rw [fits_move, List.all_map]
  congr 1
  funext x
  simp only [Function.comp, moveRow, had_move]
theorem apartTo_move (cs ms : List (Int × Int)) (d : Int) : ∀ L, apartTo cs (moveBy d ms) L = apartTo cs ms L
  | 0 => rfl
  | L + 1 => by
    rw [apartTo, apartTo, move_len, apartB_move, apartTo_move cs ms d L]
/-- The places of a comb move. -/
theorem ats_move {cs ms : List (Int × Int)} {d : Int} (h0 : sheetErr cs ms = 0) (h0' : sheetErr cs (moveBy d ms) = 0) {k : Nat} (hk : k < cs.length) : atsOf cs (moveBy d ms) k = (atsOf cs ms k).map (· + d) := by
  rw [← rows_are h0 hk, ← rows_are h0' hk, move_len, rowsUpto_move cs ms d k _ (Nat.le_refl _), List.map_map, List.map_map]
  rfl
theorem bestLen_is {cs ms : List (Int × Int)} (hw : wholeErr cs ms = 0) : bestLen cs ms = fewOf cs ms := by
  obtain ⟨_, r, _, hl, hp, _⟩ := best_is hw
  unfold fewOf
  rw [if_pos hw, hl, hp.length_eq]
/-- So many ways lead to best rows here as there. -/
theorem count_move {cs ms : List (Int × Int)} {d : Int} (h0 : sheetErr cs ms = 0) (h0' : sheetErr cs (moveBy d ms) = 0) {P P' : List (Nat × Nat)} (hK : wholeErr cs ms = 0 → Keys (allNos cs ms) P) (hK' : wholeErr cs (moveBy d ms) = 0 → Keys (allNos cs (moveBy d ms)) P') : countAns cs (moveBy d ms) P' = countAns cs ms P := by
  unfold countAns
  rw [whole_move h0 h0']
  by_cases hw : wholeErr cs ms = 0
  · have hw' : wholeErr cs (moveBy d ms) = 0 := by rw [whole_move h0 h0', hw]
    have hk1 := hK hw
    have hk2 := hK' hw'
    rw [nos_move] at hk2
    have e : wayNum cs (moveBy d ms) P' = wayNum cs ms P := by
      have e1 : wayNum cs (moveBy d ms) P' = wayNum cs ms P' := by
        unfold wayNum
        rw [move_len, bestLen_is hw, bestLen_is hw', few_move h0 h0']
      rw [e1, wayNum_is hw hk1, wayNum_is hw hk2]
    rw [e]
  · rw [if_neg hw, if_neg hw]
end Go.Proofs.Ytlaakmgdbhabfaa

/- A sheet with its marks mirrored, in plain mathematics. -/
namespace Go.Proofs.Ytlaakmgdbhabfaa
open Go.RowKit Go.Shelf
attribute [local irreducible] bitCells fitCells Z94 fitOf

theorem marks_of : ∀ (ms : List (Int × Int)) (f : Int), (∀ j (hj : j < ms.length), f ≤ ms[j].1 ∧ ms[j].1 ≤ ms[j].2 ∧ ms[j].2 ≤ 500 ∧ ms[j].2 - ms[j].1 ≤ 3) → (∀ i j (hi : i < j) (hj : j < ms.length), (ms[i]'(by omega)).2 < ms[j].1) → marksOk f ms = true
  | [], _, _, _ => rfl
  | m :: ms, f, h1, h2 => by
    have h := h1 0 (by simp)
    simp only [List.getElem_cons_zero] at h
    simp only [marksOk, Bool.and_eq_true, List.all_cons, List.all_nil, inside, decide_eq_true_eq, and_true]
    refine ⟨⟨⟨by omega, by omega⟩, by omega, by omega⟩, ⟨by omega, by omega⟩, marks_of ms (m.2 + 1) (fun j hj => ?_) (fun i j hi hj => ?_)⟩
    · have a := h1 (j + 1) (by simp; omega)
      have b := h2 0 (j + 1) (by omega) (by simp; omega)
      simp only [List.getElem_cons_succ, List.getElem_cons_zero] at a b
      omega
    · have b := h2 (i + 1) (j + 1) (by omega) (by simp; omega)
      simpa only [List.getElem_cons_succ] using b
def mirMark (m : Int × Int) : Int × Int := (500 - m.2, 500 - m.1)
def mirror (ms : List (Int × Int)) : List (Int × Int) := (ms.map mirMark).reverse
theorem mir_len (ms : List (Int × Int)) : (mirror ms).length = ms.length := by simp [mirror]
theorem mir_get {ms : List (Int × Int)} {j : Nat} (hj : j < (mirror ms).length) : ∃ h : ms.length - 1 - j < ms.length, (mirror ms)[j] = mirMark ms[ms.length - 1 - j] := by
  have hl := mir_len ms
  refine ⟨by omega, ?_⟩
  refine (List.getElem_reverse (l := ms.map mirMark) (i := j) hj).trans ?_
  simp
theorem marks_mir {ms : List (Int × Int)} (h : marksOk 0 ms = true) : marksOk 0 (mirror ms) = true := by
  have hl := mir_len ms
  refine marks_of _ _ (fun j hj => ?_) (fun i j hi hj => ?_)
  · obtain ⟨h1, e⟩ := mir_get hj
    have := marks_get ms 0 h _ h1
    rw [e]
    unfold mirMark
    dsimp only
    omega
  · obtain ⟨h1, e1⟩ := mir_get hj
    obtain ⟨h2, e2⟩ := mir_get (ms := ms) (j := i) (by omega)
    have := marks_lt ms 0 h (ms.length - 1 - j) (ms.length - 1 - i) (by omega) h2
    rw [e1, e2]
    unfold mirMark
    dsimp only
    omega
theorem sheet_mir {cs ms : List (Int × Int)} (h0 : sheetErr cs ms = 0) : sheetErr cs (mirror ms) = 0 := by
  obtain ⟨h1, h3, h4⟩ := sheet_ok h0
  unfold sheetErr
  rw [mir_len, if_pos h1, if_pos h3, if_pos (marks_mir h4)]
theorem inMark_mir (v : Int) (m : Int × Int) : inMark (500 - v) (mirMark m) = inMark v m := by
  unfold inMark mirMark inside
  simp only [List.all_cons, List.all_nil, Bool.and_true]
  rw [Bool.eq_iff_iff]
  simp only [Bool.and_eq_true, decide_eq_true_eq]
  omega
section
variable {cs ms : List (Int × Int)}
theorem hit_mir (hm : marksOk 0 ms = true) (v : Int) {j : Nat} (hj : j < ms.length) : hitOf (mirror ms) (500 - v) = j ↔ hitOf ms v = ms.length - 1 - j := by
  have hl := mir_len ms
  obtain ⟨h1, e⟩ := mir_get (ms := ms) (j := j) (by omega)
  constructor
  · intro h
    refine hit_unique hm h1 ?_
    rw [← inMark_mir, ← e]
    have := hit_in (ms := mirror ms) (v := 500 - v) (by omega)
    simpa only [h] using this
  · intro h
    refine hit_unique (marks_mir hm) (by omega) ?_
    rw [e, inMark_mir]
    have := hit_in (ms := ms) (v := v) (by omega)
    simpa only [h] using this
theorem hit_mir_lt (hm : marksOk 0 ms = true) (v : Int) : hitOf (mirror ms) (500 - v) < ms.length ↔ hitOf ms v < ms.length := by
  have hl := mir_len ms
  constructor
  · intro h
    have := (hit_mir hm v h).1 rfl
    omega
  · intro h
    have := (hit_mir hm v (j := ms.length - 1 - hitOf ms v) (by omega)).2 (by omega)
    omega
/-- How far the last tooth of a comb is from its first one. -/
def spanOf (cs : List (Int × Int)) (k : Nat) : Int := ((cs.getD k (0, 0)).2 - 1) * (cs.getD k (0, 0)).1
theorem teeth_mir (sp x : Int) {T t : Nat} (ht : t < T) : 500 - x - ((T : Int) - 1) * sp + (t : Int) * sp = 500 - (x + ((T - 1 - t : Nat) : Int) * sp) := by
  have : ((T - 1 - t : Nat) : Int) * sp = ((T : Int) - 1) * sp - (t : Int) * sp := by
    rw [← Int.sub_mul]
    congr 1
    omega
  rw [this]
  omega
theorem had_mir (hm : marksOk 0 ms = true) {k : Nat} (hT : 1 ≤ (cs.getD k (0, 0)).2) (x : Int) {j : Nat} (hj : j < ms.length) : hadB cs (mirror ms) k (500 - x - spanOf cs k) j = hadB cs ms k x (ms.length - 1 - j) := by
  unfold hadB hitsTo hadTo spanOf
  obtain ⟨T, hTT⟩ : ∃ T : Nat, (cs.getD k (0, 0)).2.toNat = T := ⟨_, rfl⟩
  have e : (cs.getD k (0, 0)).2 = (T : Int) := by omega
  rw [hTT, e, mir_len]
  generalize (cs.getD k (0, 0)).1 = sp
  have e1 : (List.range T).all (fun i => decide (hitOf (mirror ms) (500 - x - ((T : Int) - 1) * sp + i * sp) < ms.length)) = (List.range T).all (fun i => decide (hitOf ms (x + i * sp) < ms.length)) := by
    rw [Bool.eq_iff_iff]
    simp only [List.all_eq_true, List.mem_range, decide_eq_true_eq]
    constructor
    · intro h t ht
      have := h (T - 1 - t) (by omega)
      rw [teeth_mir sp x (by omega), hit_mir_lt hm, show T - 1 - (T - 1 - t) = t from by omega] at this
      exact this
    · intro h t ht
      rw [teeth_mir sp x ht, hit_mir_lt hm]
      exact h _ (by omega)
  have e2 : (List.range T).any (fun i => decide (hitOf (mirror ms) (500 - x - ((T : Int) - 1) * sp + i * sp) = j)) = (List.range T).any (fun i => decide (hitOf ms (x + i * sp) = ms.length - 1 - j)) := by
    rw [Bool.eq_iff_iff]
    simp only [List.any_eq_true, List.mem_range, decide_eq_true_eq]
    constructor
    · rintro ⟨t, ht, h⟩
      rw [teeth_mir sp x ht, hit_mir hm _ hj] at h
      exact ⟨_, by omega, h⟩
    · rintro ⟨t, ht, h⟩
      refine ⟨T - 1 - t, by omega, ?_⟩
      rw [teeth_mir sp x (by omega), hit_mir hm _ hj, show T - 1 - (T - 1 - t) = t from by omega]
      exact h
  rw [e1, e2]
/-- The mirrored row. -/
def mirRow (cs : List (Int × Int)) (x : Rw) : Rw := (x.1, 500 - x.2 - spanOf cs x.1)
theorem mirRow_back (cs : List (Int × Int)) (x : Rw) : mirRow cs (mirRow cs x) = x := by
  unfold mirRow
  dsimp only
  rw [show 500 - (500 - x.2 - spanOf cs x.1) - spanOf cs x.1 = x.2 from by omega]
theorem mirror_back (ms : List (Int × Int)) : mirror (mirror ms) = ms := by
  unfold mirror
  rw [List.map_reverse, List.reverse_reverse, List.map_map]
  conv => rhs; rw [← List.map_id ms]
  apply List.map_congr_left
  intro m _
  simp only [Function.comp, mirMark, id]
  rw [show 500 - (500 - m.1) = m.1 from by omega, show 500 - (500 - m.2) = m.2 from by omega]
theorem teeth_ok (h0 : sheetErr cs ms = 0) {k : Nat} (hk : k < cs.length) : 2 ≤ (cs.getD k (0, 0)).2 := by
  have h := (sheet_ok h0).2.1
  rw [List.all_eq_true] at h
  have := h _ (List.getElem_mem hk)
  have e : cs.getD k (0, 0) = cs[k] := by simp [List.getD_eq_getElem?_getD, List.getElem?_eq_getElem hk]
  rw [e]
  simp [combBad, inside] at this
  omega
theorem row_room (h0 : sheetErr cs ms = 0) {x : Rw} (hk : x.1 < cs.length) {i : Nat} (hb : hadB cs ms x.1 x.2 i = true) : 0 ≤ x.2 + spanOf cs x.1 ∧ x.2 + spanOf cs x.1 ≤ 500 := by
  have hT := teeth_ok h0 hk
  have hm := (sheet_ok h0).2.2
  unfold hadB hitsTo at hb
  rw [Bool.and_eq_true, List.all_eq_true] at hb
  have h := hb.1 ((cs.getD x.1 (0, 0)).2.toNat - 1) (List.mem_range.2 (by omega))
  rw [decide_eq_true_eq] at h
  have h1 := hit_in h
  have h2 := marks_get ms 0 hm _ h
  unfold inMark inside at h1
  simp only [List.all_cons, List.all_nil, Bool.and_true, Bool.and_eq_true, decide_eq_true_eq] at h1
  have he : (((cs.getD x.1 (0, 0)).2.toNat - 1 : Nat) : Int) * (cs.getD x.1 (0, 0)).1 = spanOf cs x.1 := by
    unfold spanOf
    congr 1
    omega
  rw [← he]
  omega
theorem fits_mir (h0 : sheetErr cs ms = 0) {x : Rw} (hx : x ∈ fitsOf cs ms) : mirRow cs x ∈ fitsOf cs (mirror ms) := by
  obtain ⟨h1, h2, i, hi, hb⟩ := (fits_iff h0 x).1 hx
  have hr := row_room h0 h1 hb
  refine (fits_iff (sheet_mir h0) _).2 ⟨h1, ?_, ms.length - 1 - i, by rw [mir_len]; omega, ?_⟩
  · unfold mirRow
    dsimp only
    omega
  · unfold mirRow
    dsimp only
    rw [had_mir (sheet_ok h0).2.2 (by have := teeth_ok h0 h1; omega) _ (by omega), show ms.length - 1 - (ms.length - 1 - i) = i from by omega]
    exact hb
theorem fits_mir_iff (h0 : sheetErr cs ms = 0) (x : Rw) : x ∈ fitsOf cs (mirror ms) ↔ mirRow cs x ∈ fitsOf cs ms := by
  constructor
  · intro h
    have := fits_mir (sheet_mir h0) h
    rwa [mirror_back] at this
  · intro h
    have := fits_mir h0 h
    rwa [mirRow_back] at this
theorem covers_mir (h0 : sheetErr cs ms = 0) {l : List Rw} (hl : ∀ x, x ∈ l → x ∈ fitsOf cs ms) (hc : Cov (noOf cs ms) l (2 ^ ms.length - 1)) : Cov (noOf cs (mirror ms)) (l.map (mirRow cs)) (2 ^ (mirror ms).length - 1) := by
  have h12 := (sheet_ok h0).1.2.2
  refine (covers_iff (by rw [mir_len]; exact h12) _).2 fun i hi => ?_
  rw [mir_len] at hi
  obtain ⟨x, hx, hb⟩ := (covers_iff h12 l).1 hc (ms.length - 1 - i) (by omega)
  refine ⟨_, List.mem_map_of_mem hx, ?_⟩
  unfold mirRow
  dsimp only
  rw [had_mir (sheet_ok h0).2.2 (by have := teeth_ok h0 (fits_mem h0 (hl x hx)).1; omega) _ hi]
  exact hb
theorem whole_mir0 (h0 : sheetErr cs ms = 0) (hw : wholeErr cs ms = 0) : wholeErr cs (mirror ms) = 0 ∧ (bestRows cs (mirror ms)).length ≤ (bestRows cs ms).length := by
  obtain ⟨_, r, _, _, hp, r1, r2, _, _⟩ := best_is hw
  have c1 : ∀ x, x ∈ r.map (mirRow cs) → x ∈ fitsOf cs (mirror ms) := fun x hx => by
    obtain ⟨y, hy, rfl⟩ := List.mem_map.1 hx
    exact fits_mir h0 (r1 y hy)
  have c2 := covers_mir h0 r1 r2
  have hw' := whole_of (sheet_mir h0) c1 c2
  obtain ⟨_, r', _, _, hp', _, _, _, s3⟩ := best_is hw'
  refine ⟨hw', ?_⟩
  rw [hp.length_eq, hp'.length_eq]
  have := s3 _ c1 c2
  rwa [List.length_map] at this
theorem whole_mir (h0 : sheetErr cs ms = 0) : wholeErr cs (mirror ms) = wholeErr cs ms := by
  rcases whole_cases h0 with h | h
  · rw [h]
    exact (whole_mir0 h0 h).1
  · rw [h]
    rcases whole_cases (sheet_mir h0) with h' | h'
    · have := (whole_mir0 (sheet_mir h0) h').1
      rw [mirror_back, h] at this
      cases this
    · exact h'
/-- Best rows are as many. -/
theorem few_mir (h0 : sheetErr cs ms = 0) : fewOf cs (mirror ms) = fewOf cs ms := by
  unfold fewOf
  rw [whole_mir h0]
  by_cases hw : wholeErr cs ms = 0
  · rw [if_pos hw, if_pos hw]
    have h1 := (whole_mir0 h0 hw).2
    have h2 := (whole_mir0 (sheet_mir h0) (by rw [whole_mir h0, hw])).2
    rw [mirror_back] at h2
    omega
  · rw [if_neg hw, if_neg hw]
end
end Go.Proofs.Ytlaakmgdbhabfaa

/- The mirrored sheet: places, marks apart, ways. -/
namespace Go.Proofs.Ytlaakmgdbhabfaa
open Go.RowKit Go.Shelf
attribute [local irreducible] bitCells fitCells Z94 fitOf

section
variable {cs ms : List (Int × Int)}
theorem mem_ats (h0 : sheetErr cs ms = 0) {k : Nat} (hk : k < cs.length) (v : Int) : v ∈ atsOf cs ms k ↔ ((k, v) : Rw) ∈ fitsOf cs ms := by
  constructor
  · intro h
    unfold fitsOf fitsUpto
    refine List.mem_flatMap.2 ⟨k, List.mem_range.2 hk, ?_⟩
    rw [rows_pairs h0 hk]
    exact List.mem_map.2 ⟨v, h, rfl⟩
  · intro h
    unfold fitsOf fitsUpto at h
    obtain ⟨k', hk', h⟩ := List.mem_flatMap.1 h
    rw [rows_pairs h0 (List.mem_range.1 hk')] at h
    obtain ⟨v', hv, e⟩ := List.mem_map.1 h
    cases e
    exact hv
/-- The places of a comb, mirrored and in the other order. -/
theorem ats_mir (h0 : sheetErr cs ms = 0) {k : Nat} (hk : k < cs.length) : atsOf cs (mirror ms) k = ((atsOf cs ms k).map fun v => 500 - v - spanOf cs k).reverse := by
  refine sorted_eq _ _ (nums_sorted _ _) ?_ fun v => ?_
  · rw [List.pairwise_reverse, List.pairwise_map]
    exact (nums_sorted _ _).imp fun h => by omega
  · rw [mem_ats (sheet_mir h0) hk, fits_mir_iff h0, List.mem_reverse, List.mem_map]
    unfold mirRow
    dsimp only
    constructor
    · intro h
      exact ⟨_, (mem_ats h0 hk _).2 h, by omega⟩
    · rintro ⟨y, hy, rfl⟩
      have := (mem_ats h0 hk _).1 hy
      rwa [show 500 - (500 - y - spanOf cs k) - spanOf cs k = y from by omega]
/-- Marks, mirrored. -/
def mirNos (n : Nat) (js : List Nat) : List Nat := (js.map fun j => n - 1 - j).reverse
theorem mirNos_ok {n : Nat} {js : List Nat} (h1 : js.Pairwise (· < ·)) (h2 : ∀ x, x ∈ js → x < n) : (mirNos n js).Pairwise (· < ·) ∧ (∀ x, x ∈ mirNos n js → x < n) ∧ (mirNos n js).length = js.length := by
  refine ⟨?_, fun x hx => ?_, by simp [mirNos]⟩
  · unfold mirNos
    rw [List.pairwise_reverse, List.pairwise_map]
    refine h1.imp_of_mem fun {a b} ha hb h => ?_
    have := h2 b hb
    omega
  · unfold mirNos at hx
    obtain ⟨y, hy, rfl⟩ := List.mem_map.1 (List.mem_reverse.1 hx)
    have := h2 y hy
    omega
theorem apart_mir (h0 : sheetErr cs ms = 0) {js : List Nat} (h2 : ∀ x, x ∈ js → x < ms.length) (ha : apartB cs ms js = true) : apartB cs (mirror ms) (mirNos ms.length js) = true := by
  unfold apartB at ha ⊢
  rw [List.all_eq_true] at ha ⊢
  intro x hx
  have hy := (fits_mir_iff h0 x).1 hx
  have := ha _ hy
  have hk := (fits_mem h0 hy).1
  have e : ((mirNos ms.length js).filter (hadB cs (mirror ms) x.1 x.2)).length = (js.filter (hadB cs ms (mirRow cs x).1 (mirRow cs x).2)).length := by
    unfold mirNos
    rw [List.filter_reverse, List.length_reverse, List.filter_map, List.length_map]
    congr 1
    refine List.filter_congr fun j hj => ?_
    have hj2 := h2 j hj
    have hm := had_mir (cs := cs) (sheet_ok h0).2.2 (k := x.1) (by have := teeth_ok h0 (k := x.1) hk; omega) (mirRow cs x).2 (j := ms.length - 1 - j) (by omega)
    rw [show 500 - (mirRow cs x).2 - spanOf cs x.1 = x.2 from by unfold mirRow; dsimp only; omega, show ms.length - 1 - (ms.length - 1 - j) = j from by omega] at hm
    exact hm
  unfold crowded at this ⊢
  rw [e]
  exact this
theorem apartTo_mir_le (h0 : sheetErr cs ms = 0) (L : Nat) : (apartTo cs ms L).length ≤ (apartTo cs (mirror ms) L).length := by
  obtain ⟨h1, h2, h3, h4⟩ := apartTo_ok cs ms L
  obtain ⟨g1, g2, g3⟩ := mirNos_ok h1 h2
  have := apartTo_most cs (mirror ms) g1 (fun x hx => by rw [mir_len]; exact g2 x hx) (apart_mir h0 h2 h3) L (by omega)
  omega
/-- So many marks are apart here as there. -/
theorem apartTo_mir (h0 : sheetErr cs ms = 0) (L : Nat) : (apartTo cs (mirror ms) L).length = (apartTo cs ms L).length := by
  have h1 := apartTo_mir_le h0 L
  have h2 := apartTo_mir_le (sheet_mir h0) L
  rw [mirror_back] at h2
  omega
/-- The bits of a number, in the other order. -/
def revNo (n a : Nat) : Nat := setNo fun j => decide (j < n) && a.testBit (n - 1 - j)
theorem revNo_bit {n : Nat} (hn : n ≤ 12) (a i : Nat) : (revNo n a).testBit i = (decide (i < n) && a.testBit (n - 1 - i)) := by
  unfold revNo
  rw [setNo_bit]
  by_cases h : i < n
  · rw [decide_eq_true (show i < 12 by omega), Bool.true_and]
  · simp [h]
theorem revNo_or {n : Nat} (hn : n ≤ 12) (a b : Nat) : revNo n (a ||| b) = revNo n a ||| revNo n b := by
  apply Nat.eq_of_testBit_eq
  intro i
  rw [Nat.testBit_or, revNo_bit hn, revNo_bit hn, revNo_bit hn, Nat.testBit_or, Bool.and_or_distrib_left]
theorem revNo_all {n : Nat} (hn : n ≤ 12) {h : Nat} (hh : h < 2 ^ n) : revNo n h = 2 ^ n - 1 ↔ h = 2 ^ n - 1 := by
  have key : ∀ g : Nat, g < 2 ^ n → (g = 2 ^ n - 1 ↔ ∀ i, i < n → g.testBit i = true) := fun g hg => by
    constructor
    · rintro rfl i hi
      rw [all_bit, decide_eq_true_eq]
      exact hi
    · intro h
      apply Nat.eq_of_testBit_eq
      intro i
      rw [all_bit]
      by_cases hi : i < n
      · rw [h i hi, decide_eq_true hi]
      · rw [decide_eq_false hi]
        exact Nat.testBit_lt_two_pow (Nat.lt_of_lt_of_le hg (Nat.pow_le_pow_right (by decide) (by omega)))
  have hr : revNo n h < 2 ^ n := Nat.lt_pow_two_of_testBit _ fun i hi => by
    rw [revNo_bit hn, decide_eq_false (by omega), Bool.false_and]
  rw [key _ hr, key _ hh]
  constructor
  · intro hb i hi
    have := hb (n - 1 - i) (by omega)
    rw [revNo_bit hn, decide_eq_true (by omega), Bool.true_and, show n - 1 - (n - 1 - i) = i from by omega] at this
    exact this
  · intro hb i hi
    rw [revNo_bit hn, decide_eq_true hi, Bool.true_and]
    exact hb _ (by omega)
theorem cw_rev {n : Nat} (hn : n ≤ 12) : ∀ (N : List Nat) (m h : Nat), (∀ a, a ∈ N → a < 2 ^ n) → h < 2 ^ n → cw (2 ^ n - 1) (ones (N.map (revNo n))) m (revNo n h) = cw (2 ^ n - 1) (ones N) m h
  | [], m, h, _, hh => by
    simp only [List.map_nil, ones, cw, revNo_all hn hh]
  | a :: N, 0, h, ha, hh => by
    rw [List.map_cons, ones_cons, ones_cons, cw, cw]
    exact cw_rev hn N 0 h (fun b hb => ha b (List.mem_cons_of_mem _ hb)) hh
  | a :: N, m + 1, h, ha, hh => by
    rw [List.map_cons, ones_cons, ones_cons, cw, cw]
    dsimp only
    rw [cw_rev hn N (m + 1) h (fun b hb => ha b (List.mem_cons_of_mem _ hb)) hh, ← revNo_or hn, cw_rev hn N m (h ||| a) (fun b hb => ha b (List.mem_cons_of_mem _ hb)) (Nat.or_lt_two_pow hh (ha a List.mem_cons_self))]
theorem no_less (x : Rw) : noOf cs ms x < 2 ^ ms.length := Nat.lt_pow_two_of_testBit _ fun i hi => by
  rw [noOf_bit]
  cases hb : hadB cs ms x.1 x.2 i with
  | false => rw [Bool.and_false]
  | true => exact absurd (had_lt hb) (by omega)
theorem no_mir (h0 : sheetErr cs ms = 0) {x : Rw} (hx : x ∈ fitsOf cs ms) : noOf cs (mirror ms) (mirRow cs x) = revNo ms.length (noOf cs ms x) := by
  have h12 := (sheet_ok h0).1.2.2
  have hk := (fits_mem h0 hx).1
  apply Nat.eq_of_testBit_eq
  intro i
  rw [revNo_bit h12, noOf_bit, noOf_bit]
  by_cases hi : i < ms.length
  · have hm := had_mir (cs := cs) (sheet_ok h0).2.2 (k := x.1) (by have := teeth_ok h0 (k := x.1) hk; omega) x.2 hi
    unfold mirRow
    dsimp only
    rw [hm, decide_eq_true hi, decide_eq_true (show i < 12 by omega), decide_eq_true (show ms.length - 1 - i < 12 by omega)]
    simp
  · rw [decide_eq_false hi, Bool.false_and]
    cases hb : hadB cs (mirror ms) (mirRow cs x).1 (mirRow cs x).2 i with
    | false => rw [Bool.and_false]
    | true =>
      have := had_lt hb
      rw [mir_len] at this
      omega
theorem fits_perm (h0 : sheetErr cs ms = 0) : (fitsOf cs (mirror ms)).Perm ((fitsOf cs ms).map (mirRow cs)) := by
  have hn : ((fitsOf cs ms).map (mirRow cs)).Nodup := by
    unfold List.Nodup
    rw [List.pairwise_map]
    refine (fits_nodup h0).imp fun {a b} hab e => hab ?_
    have := congrArg (mirRow cs) e
    rwa [mirRow_back, mirRow_back] at this
  rw [List.perm_ext_iff_of_nodup (fits_nodup (sheet_mir h0)) hn]
  intro x
  rw [fits_mir_iff h0, List.mem_map]
  constructor
  · intro h
    exact ⟨_, h, mirRow_back cs x⟩
  · rintro ⟨y, hy, rfl⟩
    rwa [mirRow_back]
/-- So many ways lead to best rows here as there. -/
theorem count_mir (h0 : sheetErr cs ms = 0) {P P' : List (Nat × Nat)} (hK : wholeErr cs ms = 0 → Keys (allNos cs ms) P) (hK' : wholeErr cs (mirror ms) = 0 → Keys (allNos cs (mirror ms)) P') : countAns cs (mirror ms) P' = countAns cs ms P := by
  unfold countAns
  rw [whole_mir h0]
  by_cases hw : wholeErr cs ms = 0
  · have h12 := (sheet_ok h0).1.2.2
    have hw' : wholeErr cs (mirror ms) = 0 := by rw [whole_mir h0, hw]
    have e : wayNum cs (mirror ms) P' = wayNum cs ms P := by
      rw [wayNum_is hw (hK hw), wayNum_is hw' (hK' hw'), bestLen_is hw, bestLen_is hw', few_mir h0]
      congr 2
      unfold wayCount
      rw [mir_len]
      have hp : (ones ((fitsOf cs (mirror ms)).map (noOf cs (mirror ms)))).Perm (ones (((fitsOf cs ms).map (noOf cs ms)).map (revNo ms.length))) := by
        unfold ones
        refine List.Perm.map _ (((fits_perm h0).map _).trans ?_)
        rw [List.map_map, List.map_map]
        refine List.Perm.of_eq (List.map_congr_left fun x hx => ?_)
        exact no_mir h0 hx
      rw [cw_perm _ hp]
      have hz : revNo ms.length 0 = 0 := by
        apply Nat.eq_of_testBit_eq
        intro i
        rw [revNo_bit h12]
        simp
      have := cw_rev h12 ((fitsOf cs ms).map (noOf cs ms)) (fewOf cs ms) 0 (fun a ha => by
        obtain ⟨x, _, rfl⟩ := List.mem_map.1 ha
        exact no_less x) (Nat.two_pow_pos _)
      rw [hz] at this
      exact this
    rw [e]
  · rw [if_neg hw, if_neg hw]
end
end Go.Proofs.Ytlaakmgdbhabfaa

/- CombMoved: its drawn regions that change no memory. -/
namespace Go.Proofs.Ytlaakmgdbhabfaa
open Go.RowKit Go.Shelf
attribute [local irreducible] bitCells fitCells Z94 fitOf

/-- The slots of region 3 of function 12. -/
def mv3D (i : Nat) : Tmp := if i = 0 then 37 else if i = 1 then 38 else if i = 2 then 39 else if i = 3 then 40 else if i = 4 then 41 else if i = 5 then 42 else if i = 6 then 43 else if i = 7 then 44 else if i = 8 then 45 else if i = 9 then 7 else 8
/-- What each operation yields. -/
def mv3S (p : Nat) (A : Option Addr) (n c off kk : Nat) (x y : Int) (ix : Nat) (v : Value) (_W : World) : Prop :=
  match ix with
  | 0 => v = .int .u16 x
  | 1 => v = .int .i64 x
  | 2 => v = .int .i64 (off : Int)
  | 3 => v = .int .u8 y
  | 4 => v = .int .i64 y
  | 5 => v = .pointer (some ⟨p, 0, none⟩)
  | 6 => v = .slice A n c
  | 7 => v = .int .i64 (n : Int)
  | 8 => v = .int .i64 (kk : Int)
  | 9 => v = .int .i64 (off : Int)
  | 10 => v = .int .i64 (kk : Int)
  | _ => True
noncomputable def mv3Reg : Array Oper := (Try.f12.body.bind (regionOf · 3)).getD #[]
theorem mv3S_ext {p : Nat} {A : Option Addr} {n c off kk : Nat} {x y : Int} : ∀ (i : Nat) (v : Value) (W W' : World), mv3S p A n c off kk x y i v W → Below W.heap.size W W' → mv3S p A n c off kk x y i v W' := by
  intro i v W W' h e
  match i with
  | 0 => exact h
  | 1 => exact h
  | 2 => exact h
  | 3 => exact h
  | 4 => exact h
  | 5 => exact h
  | 6 => exact h
  | 7 => exact h
  | 8 => exact h
  | 9 => exact h
  | 10 => exact h
  | k + 11 => exact trivial
def mv3Ok (p : Nat) (A : Option Addr) (n c off kk : Nat) (x y : Int) (Q : Exit → Act → World → Prop) (a : Act) (W : World) (ix : Nat) (o : Oper) : Prop :=
  (∀ j b, o.guard = some (j, b) → a.eval (.tmp (mv3D j)) = .bool b) ∧ o.wp Try.prog a W (fun a'' W' => ∃ v, a'' = a.put o.dst v ∧ mv3S p A n c off kk x y ix v W' ∧ Below W.heap.size W W') Q
section
variable {p : Nat} {A : Option Addr} {n c off kk : Nat} {x y : Int} {Q : Exit → Act → World → Prop} {a : Act} {V W : World} {o : Oper}
set_option maxHeartbeats 1000000 in
theorem mv3_op0 (o1 : a.eval (.tmp 1) = .int .u16 x) (ho : mv3Reg[0]? = some o) : mv3Ok p A n c off kk x y Q a W 0 o := by
  have hop := op_at ho (·.op) (x := Op.move (Operand.tmp 1)) (by kernel_rfl)
  have hgd := op_at ho (·.guard) (x := none) (by kernel_rfl)
  refine ⟨fun j b h => (by rw [hgd] at h; cases h), ?_⟩
  exact specs_value (R := fun v W => mv3S p A n c off kk x y 0 v W) (v := .int .u16 x) (by simp [execOp, hop, go_sem, ev o1]) rfl (Ext.refl W)
set_option maxHeartbeats 1000000 in
theorem mv3_op1 (wx : IntKind.i64.wrap x = x) (haft : ∀ j, (o.after.any fun e => decide (e.on = j) && Region.binds .any e) = true → mv3S p A n c off kk x y j (a.eval (.tmp (mv3D j))) W) (ho : mv3Reg[1]? = some o) : mv3Ok p A n c off kk x y Q a W 1 o := by
  have hop := op_at ho (·.op) (x := Op.convert 73 2 (Operand.tmp 37)) (by kernel_rfl)
  have hgd := op_at ho (·.guard) (x := none) (by kernel_rfl)
  have e0 : a.eval (.tmp 37) = .int .u16 x := haft 0 (op_at ho (fun o => o.after.any fun e => decide (e.on = 0) && Region.binds .any e) (x := true) (by kernel_rfl))
  refine ⟨fun j b h => (by rw [hgd] at h; cases h), ?_⟩
  exact specs_value (R := fun v W => mv3S p A n c off kk x y 1 v W) (v := .int .i64 x) (by simp [execOp, hop, go_sem, ev e0, wx]) rfl (Ext.refl W)
set_option maxHeartbeats 1000000 in
theorem mv3_op2 (hof : x.tmod 501 = (off : Int)) (haft : ∀ j, (o.after.any fun e => decide (e.on = j) && Region.binds .any e) = true → mv3S p A n c off kk x y j (a.eval (.tmp (mv3D j))) W) (ho : mv3Reg[2]? = some o) : mv3Ok p A n c off kk x y Q a W 2 o := by
  have hop := op_at ho (·.op) (x := Op.binOp BinOp.rem 2 (Operand.tmp 38) (Operand.const (Value.int IntKind.i64 501)) 2) (by kernel_rfl)
  have hgd := op_at ho (·.guard) (x := none) (by kernel_rfl)
  have e1 : a.eval (.tmp 38) = .int .i64 x := haft 1 (op_at ho (fun o => o.after.any fun e => decide (e.on = 1) && Region.binds .any e) (x := true) (by kernel_rfl))
  refine ⟨fun j b h => (by rw [hgd] at h; cases h), ?_⟩
  exact specs_value (R := fun v W => mv3S p A n c off kk x y 2 v W) (v := .int .i64 (off : Int)) (by simp [execOp, hop, go_sem, ev e1, hof]) rfl (Ext.refl W)
set_option maxHeartbeats 1000000 in
theorem mv3_op3 (o2 : a.eval (.tmp 2) = .int .u8 y) (ho : mv3Reg[3]? = some o) : mv3Ok p A n c off kk x y Q a W 3 o := by
  have hop := op_at ho (·.op) (x := Op.move (Operand.tmp 2)) (by kernel_rfl)
  have hgd := op_at ho (·.guard) (x := none) (by kernel_rfl)
  refine ⟨fun j b h => (by rw [hgd] at h; cases h), ?_⟩
  exact specs_value (R := fun v W => mv3S p A n c off kk x y 3 v W) (v := .int .u8 y) (by simp [execOp, hop, go_sem, ev o2]) rfl (Ext.refl W)
set_option maxHeartbeats 1000000 in
theorem mv3_op4 (wy : IntKind.i64.wrap y = y) (haft : ∀ j, (o.after.any fun e => decide (e.on = j) && Region.binds .any e) = true → mv3S p A n c off kk x y j (a.eval (.tmp (mv3D j))) W) (ho : mv3Reg[4]? = some o) : mv3Ok p A n c off kk x y Q a W 4 o := by
  have hop := op_at ho (·.op) (x := Op.convert 5 3 (Operand.tmp 40)) (by kernel_rfl)
  have hgd := op_at ho (·.guard) (x := none) (by kernel_rfl)
  have e3 : a.eval (.tmp 40) = .int .u8 y := haft 3 (op_at ho (fun o => o.after.any fun e => decide (e.on = 3) && Region.binds .any e) (x := true) (by kernel_rfl))
  refine ⟨fun j b h => (by rw [hgd] at h; cases h), ?_⟩
  exact specs_value (R := fun v W => mv3S p A n c off kk x y 4 v W) (v := .int .i64 y) (by simp [execOp, hop, go_sem, ev e3, wy]) rfl (Ext.refl W)
set_option maxHeartbeats 1000000 in
theorem mv3_op5 (o3 : a.eval (.tmp 3) = .pointer (some ⟨p, 0, none⟩)) (ho : mv3Reg[5]? = some o) : mv3Ok p A n c off kk x y Q a W 5 o := by
  have hop := op_at ho (·.op) (x := Op.fieldAddr 25 (Operand.tmp 3) 0) (by kernel_rfl)
  have hgd := op_at ho (·.guard) (x := none) (by kernel_rfl)
  refine ⟨fun j b h => (by rw [hgd] at h; cases h), ?_⟩
  exact specs_value (R := fun v W => mv3S p A n c off kk x y 5 v W) (v := .pointer (some ⟨p, 0, none⟩)) (by simp [execOp, hop, go_sem, ev o3]) rfl (Ext.refl W)
set_option maxHeartbeats 1000000 in
theorem mv3_op6 (q0 : ∀ W, Ext V W → W.cell? ⟨p, 0, none⟩ = some (.slice A n c)) (hB : Ext V W) (haft : ∀ j, (o.after.any fun e => decide (e.on = j) && Region.binds .any e) = true → mv3S p A n c off kk x y j (a.eval (.tmp (mv3D j))) W) (ho : mv3Reg[6]? = some o) : mv3Ok p A n c off kk x y Q a W 6 o := by
  have hop := op_at ho (·.op) (x := Op.load 22 (Operand.tmp 42)) (by kernel_rfl)
  have hgd := op_at ho (·.guard) (x := none) (by kernel_rfl)
  have e5 : a.eval (.tmp 42) = .pointer (some ⟨p, 0, none⟩) := haft 5 (op_at ho (fun o => o.after.any fun e => decide (e.on = 5) && Region.binds .any e) (x := true) (by kernel_rfl))
  refine ⟨fun j b h => (by rw [hgd] at h; cases h), ?_⟩
  have q0' := q0 W hB
  exact specs_value (R := fun v W => mv3S p A n c off kk x y 6 v W) (v := .slice A n c) (by simp [execOp, hop, go_sem, ev e5, q0']) rfl (Ext.refl W)
set_option maxHeartbeats 1000000 in
theorem mv3_op7 (haft : ∀ j, (o.after.any fun e => decide (e.on = j) && Region.binds .any e) = true → mv3S p A n c off kk x y j (a.eval (.tmp (mv3D j))) W) (ho : mv3Reg[7]? = some o) : mv3Ok p A n c off kk x y Q a W 7 o := by
  have hop := op_at ho (·.op) (x := Op.call { callee := Callee.builtin Builtin.len, args := #[Operand.tmp 43], argTypes := #[22] }) (by kernel_rfl)
  have hgd := op_at ho (·.guard) (x := none) (by kernel_rfl)
  have e6 : a.eval (.tmp 43) = .slice A n c := haft 6 (op_at ho (fun o => o.after.any fun e => decide (e.on = 6) && Region.binds .any e) (x := true) (by kernel_rfl))
  refine ⟨fun j b h => (by rw [hgd] at h; cases h), ?_⟩
  exact specs_value (R := fun v W => mv3S p A n c off kk x y 7 v W) (v := .int .i64 (n : Int)) (by simp [execOp, hop, go_sem, ev e6]) rfl (Ext.refl W)
set_option maxHeartbeats 1000000 in
theorem mv3_op8 (hk : y.tmod (n : Int) = (kk : Int)) (hnz : ¬ n = 0) (haft : ∀ j, (o.after.any fun e => decide (e.on = j) && Region.binds .any e) = true → mv3S p A n c off kk x y j (a.eval (.tmp (mv3D j))) W) (ho : mv3Reg[8]? = some o) : mv3Ok p A n c off kk x y Q a W 8 o := by
  have hop := op_at ho (·.op) (x := Op.binOp BinOp.rem 3 (Operand.tmp 41) (Operand.tmp 44) 3) (by kernel_rfl)
  have hgd := op_at ho (·.guard) (x := none) (by kernel_rfl)
  have e4 : a.eval (.tmp 41) = .int .i64 y := haft 4 (op_at ho (fun o => o.after.any fun e => decide (e.on = 4) && Region.binds .any e) (x := true) (by kernel_rfl))
  have e7 : a.eval (.tmp 44) = .int .i64 (n : Int) := haft 7 (op_at ho (fun o => o.after.any fun e => decide (e.on = 7) && Region.binds .any e) (x := true) (by kernel_rfl))
  refine ⟨fun j b h => (by rw [hgd] at h; cases h), ?_⟩
  exact specs_value (R := fun v W => mv3S p A n c off kk x y 8 v W) (v := .int .i64 (kk : Int)) (by simp [execOp, hop, go_sem, ev e4, ev e7, hk, hnz]) rfl (Ext.refl W)
set_option maxHeartbeats 1000000 in
theorem mv3_op9 (haft : ∀ j, (o.after.any fun e => decide (e.on = j) && Region.binds .any e) = true → mv3S p A n c off kk x y j (a.eval (.tmp (mv3D j))) W) (ho : mv3Reg[9]? = some o) : mv3Ok p A n c off kk x y Q a W 9 o := by
  have hop := op_at ho (·.op) (x := Op.assign (Operand.tmp 39)) (by kernel_rfl)
  have hgd := op_at ho (·.guard) (x := none) (by kernel_rfl)
  have e2 : a.eval (.tmp 39) = .int .i64 (off : Int) := haft 2 (op_at ho (fun o => o.after.any fun e => decide (e.on = 2) && Region.binds .any e) (x := true) (by kernel_rfl))
  refine ⟨fun j b h => (by rw [hgd] at h; cases h), ?_⟩
  exact specs_value (R := fun v W => mv3S p A n c off kk x y 9 v W) (v := .int .i64 (off : Int)) (by simp [execOp, hop, go_sem, ev e2]) rfl (Ext.refl W)
set_option maxHeartbeats 1000000 in
theorem mv3_op10 (haft : ∀ j, (o.after.any fun e => decide (e.on = j) && Region.binds .any e) = true → mv3S p A n c off kk x y j (a.eval (.tmp (mv3D j))) W) (ho : mv3Reg[10]? = some o) : mv3Ok p A n c off kk x y Q a W 10 o := by
  have hop := op_at ho (·.op) (x := Op.assign (Operand.tmp 45)) (by kernel_rfl)
  have hgd := op_at ho (·.guard) (x := none) (by kernel_rfl)
  have e8 : a.eval (.tmp 45) = .int .i64 (kk : Int) := haft 8 (op_at ho (fun o => o.after.any fun e => decide (e.on = 8) && Region.binds .any e) (x := true) (by kernel_rfl))
  refine ⟨fun j b h => (by rw [hgd] at h; cases h), ?_⟩
  exact specs_value (R := fun v W => mv3S p A n c off kk x y 10 v W) (v := .int .i64 (kk : Int)) (by simp [execOp, hop, go_sem, ev e8]) rfl (Ext.refl W)
set_option maxRecDepth 100000 in
set_option maxHeartbeats 4000000 in
/-- Region 3 of function 12. -/
theorem mv3_wp {id : Nat} (hlen : a.tmps.size = 310) (o1 : a.eval (.tmp 1) = .int .u16 x) (o2 : a.eval (.tmp 2) = .int .u8 y) (o3 : a.eval (.tmp 3) = .pointer (some ⟨p, 0, none⟩)) (wx : IntKind.i64.wrap x = x) (hof : x.tmod 501 = (off : Int)) (wy : IntKind.i64.wrap y = y) (q0 : ∀ W, Ext V W → W.cell? ⟨p, 0, none⟩ = some (.slice A n c)) (hk : y.tmod (n : Int) = (kk : Int)) (hnz : ¬ n = 0) (K : (∀ W, Ext V W → wpList Try.prog mv3Reg Q (mv3Reg.toList.drop 11) (puts a [(37, .int .u16 x), (38, .int .i64 x), (39, .int .i64 (off : Int)), (40, .int .u8 y), (41, .int .i64 y), (42, .pointer (some ⟨p, 0, none⟩)), (43, .slice A n c), (44, .int .i64 (n : Int)), (45, .int .i64 (kk : Int)), (7, .int .i64 (off : Int)), (8, .int .i64 (kk : Int))]) W)) : (Code.region id mv3Reg true).wp Try.prog Q a V := by
  refine wp_region_specs_free (ops := mv3Reg) 11 (mv3S p A n c off kk x y) (Ext V) (by kernel_rfl) (by rw [hlen]; kernel_rfl) (by kernel_rfl) ⟨rfl, rfl, rfl, Nat.le_refl _, fun _ _ => rfl⟩ (fun _ _ h e => h.trans e) mv3S_ext mv3D (by kernel_rfl) ?_ ?_
  · intro i o hi ho a' W hB hsz hold haft
    match i, hi with
    | 0, _ => exact mv3_op0 ((hold 1 (by kernel_rfl)).trans o1) ho
    | 1, _ => exact mv3_op1 wx haft ho
    | 2, _ => exact mv3_op2 hof haft ho
    | 3, _ => exact mv3_op3 ((hold 2 (by kernel_rfl)).trans o2) ho
    | 4, _ => exact mv3_op4 wy haft ho
    | 5, _ => exact mv3_op5 ((hold 3 (by kernel_rfl)).trans o3) ho
    | 6, _ => exact mv3_op6 q0 hB haft ho
    | 7, _ => exact mv3_op7 haft ho
    | 8, _ => exact mv3_op8 hk hnz haft ho
    | 9, _ => exact mv3_op9 haft ho
    | 10, _ => exact mv3_op10 haft ho
    | m + 11, h => exact absurd h (by omega)
  · intro a1 W hB hsz hdf hold hS
    have hall : ∀ z, z ∈ ([(37, .int .u16 x), (38, .int .i64 x), (39, .int .i64 (off : Int)), (40, .int .u8 y), (41, .int .i64 y), (42, .pointer (some ⟨p, 0, none⟩)), (43, .slice A n c), (44, .int .i64 (n : Int)), (45, .int .i64 (kk : Int)), (7, .int .i64 (off : Int)), (8, .int .i64 (kk : Int))] : List (Tmp × Value)) → z.1 < a.tmps.size ∧ a1.eval (.tmp z.1) = z.2 := by
      intro z hz
      rw [hlen]
      simp only [List.mem_cons, List.not_mem_nil, or_false] at hz
      rcases hz with rfl | rfl | rfl | rfl | rfl | rfl | rfl | rfl | rfl | rfl | rfl
      · exact ⟨(show (37 : Nat) < 310 by omega), hS 0 (by omega)⟩
      · exact ⟨(show (38 : Nat) < 310 by omega), hS 1 (by omega)⟩
      · exact ⟨(show (39 : Nat) < 310 by omega), hS 2 (by omega)⟩
      · exact ⟨(show (40 : Nat) < 310 by omega), hS 3 (by omega)⟩
      · exact ⟨(show (41 : Nat) < 310 by omega), hS 4 (by omega)⟩
      · exact ⟨(show (42 : Nat) < 310 by omega), hS 5 (by omega)⟩
      · exact ⟨(show (43 : Nat) < 310 by omega), hS 6 (by omega)⟩
      · exact ⟨(show (44 : Nat) < 310 by omega), hS 7 (by omega)⟩
      · exact ⟨(show (45 : Nat) < 310 by omega), hS 8 (by omega)⟩
      · exact ⟨(show (7 : Nat) < 310 by omega), hS 9 (by omega)⟩
      · exact ⟨(show (8 : Nat) < 310 by omega), hS 10 (by omega)⟩
    have ha := act_puts hsz hdf hall (fun t ht => hold t (all_ne_of (l := [(37, .int .u16 x), (38, .int .i64 x), (39, .int .i64 (off : Int)), (40, .int .u8 y), (41, .int .i64 y), (42, .pointer (some ⟨p, 0, none⟩)), (43, .slice A n c), (44, .int .i64 (n : Int)), (45, .int .i64 (kk : Int)), (7, .int .i64 (off : Int)), (8, .int .i64 (kk : Int))]) (by kernel_rfl) ht))
    rw [ha]
    exact K W  hB 
end

/-- The slots of region 21 of function 12. -/
def mv21D (i : Nat) : Tmp := if i = 0 then 193 else if i = 1 then 194 else if i = 2 then 195 else if i = 3 then 196 else if i = 4 then 197 else if i = 5 then 198 else if i = 6 then 199 else if i = 7 then 200 else if i = 8 then 201 else if i = 9 then 202 else if i = 10 then 203 else if i = 11 then 204 else if i = 12 then 205 else if i = 13 then 206 else 30
/-- What each operation yields. -/
def mv21S (p b of n c kk : Nat) (T T1 sp sn : Int) (ix : Nat) (v : Value) (_W : World) : Prop :=
  match ix with
  | 0 => v = .pointer (some ⟨p, 0, none⟩)
  | 1 => v = .slice (some ⟨b, of, none⟩) n c
  | 2 => v = .int .i64 (kk : Int)
  | 3 => v = .pointer (some ⟨b, of + kk * 2, none⟩)
  | 4 => v = .pointer (some ⟨b, of + kk * 2 + 1, none⟩)
  | 5 => v = .int .i64 T
  | 6 => v = .int .i64 T1
  | 7 => v = .pointer (some ⟨p, 0, none⟩)
  | 8 => v = .slice (some ⟨b, of, none⟩) n c
  | 9 => v = .int .i64 (kk : Int)
  | 10 => v = .pointer (some ⟨b, of + kk * 2, none⟩)
  | 11 => v = .pointer (some ⟨b, of + kk * 2, none⟩)
  | 12 => v = .int .i64 sp
  | 13 => v = .int .i64 sn
  | 14 => v = .int .i64 sn
  | _ => True
noncomputable def mv21Reg : Array Oper := (Try.f12.body.bind (regionOf · 21)).getD #[]
theorem mv21S_ext {p b of n c kk : Nat} {T T1 sp sn : Int} : ∀ (i : Nat) (v : Value) (W W' : World), mv21S p b of n c kk T T1 sp sn i v W → Below W.heap.size W W' → mv21S p b of n c kk T T1 sp sn i v W' := by
  intro i v W W' h e
  match i with
  | 0 => exact h
  | 1 => exact h
  | 2 => exact h
  | 3 => exact h
  | 4 => exact h
  | 5 => exact h
  | 6 => exact h
  | 7 => exact h
  | 8 => exact h
  | 9 => exact h
  | 10 => exact h
  | 11 => exact h
  | 12 => exact h
  | 13 => exact h
  | 14 => exact h
  | k + 15 => exact trivial
def mv21Ok (p b of n c kk : Nat) (T T1 sp sn : Int) (Q : Exit → Act → World → Prop) (a : Act) (W : World) (ix : Nat) (o : Oper) : Prop :=
  (∀ j b, o.guard = some (j, b) → a.eval (.tmp (mv21D j)) = .bool b) ∧ o.wp Try.prog a W (fun a'' W' => ∃ v, a'' = a.put o.dst v ∧ mv21S p b of n c kk T T1 sp sn ix v W' ∧ Below W.heap.size W W') Q
section
variable {p b of n c kk : Nat} {T T1 sp sn : Int} {Q : Exit → Act → World → Prop} {a : Act} {V W : World} {o : Oper}
set_option maxHeartbeats 1000000 in
theorem mv21_op0 (o3 : a.eval (.tmp 3) = .pointer (some ⟨p, 0, none⟩)) (ho : mv21Reg[0]? = some o) : mv21Ok p b of n c kk T T1 sp sn Q a W 0 o := by
  have hop := op_at ho (·.op) (x := Op.fieldAddr 25 (Operand.tmp 3) 0) (by kernel_rfl)
  have hgd := op_at ho (·.guard) (x := none) (by kernel_rfl)
  refine ⟨fun j b h => (by rw [hgd] at h; cases h), ?_⟩
  exact specs_value (R := fun v W => mv21S p b of n c kk T T1 sp sn 0 v W) (v := .pointer (some ⟨p, 0, none⟩)) (by simp [execOp, hop, go_sem, ev o3]) rfl (Ext.refl W)
set_option maxHeartbeats 1000000 in
theorem mv21_op1 (q0 : ∀ W, Ext V W → W.cell? ⟨p, 0, none⟩ = some (.slice (some ⟨b, of, none⟩) n c)) (hB : Ext V W) (haft : ∀ j, (o.after.any fun e => decide (e.on = j) && Region.binds .any e) = true → mv21S p b of n c kk T T1 sp sn j (a.eval (.tmp (mv21D j))) W) (ho : mv21Reg[1]? = some o) : mv21Ok p b of n c kk T T1 sp sn Q a W 1 o := by
  have hop := op_at ho (·.op) (x := Op.load 22 (Operand.tmp 193)) (by kernel_rfl)
  have hgd := op_at ho (·.guard) (x := none) (by kernel_rfl)
  have e0 : a.eval (.tmp 193) = .pointer (some ⟨p, 0, none⟩) := haft 0 (op_at ho (fun o => o.after.any fun e => decide (e.on = 0) && Region.binds .any e) (x := true) (by kernel_rfl))
  refine ⟨fun j b h => (by rw [hgd] at h; cases h), ?_⟩
  have q0' := q0 W hB
  exact specs_value (R := fun v W => mv21S p b of n c kk T T1 sp sn 1 v W) (v := .slice (some ⟨b, of, none⟩) n c) (by simp [execOp, hop, go_sem, ev e0, q0']) rfl (Ext.refl W)
set_option maxHeartbeats 1000000 in
theorem mv21_op2 (o8 : a.eval (.tmp 8) = .int .i64 (kk : Int)) (ho : mv21Reg[2]? = some o) : mv21Ok p b of n c kk T T1 sp sn Q a W 2 o := by
  have hop := op_at ho (·.op) (x := Op.move (Operand.tmp 8)) (by kernel_rfl)
  have hgd := op_at ho (·.guard) (x := none) (by kernel_rfl)
  refine ⟨fun j b h => (by rw [hgd] at h; cases h), ?_⟩
  exact specs_value (R := fun v W => mv21S p b of n c kk T T1 sp sn 2 v W) (v := .int .i64 (kk : Int)) (by simp [execOp, hop, go_sem, ev o8]) rfl (Ext.refl W)
set_option maxHeartbeats 1000000 in
theorem mv21_op3 (hkn : kk < n) (haft : ∀ j, (o.after.any fun e => decide (e.on = j) && Region.binds .any e) = true → mv21S p b of n c kk T T1 sp sn j (a.eval (.tmp (mv21D j))) W) (ho : mv21Reg[3]? = some o) : mv21Ok p b of n c kk T T1 sp sn Q a W 3 o := by
  have hop := op_at ho (·.op) (x := Op.indexAddr 22 (Operand.tmp 194) (Operand.tmp 195)) (by kernel_rfl)
  have hgd := op_at ho (·.guard) (x := none) (by kernel_rfl)
  have e1 : a.eval (.tmp 194) = .slice (some ⟨b, of, none⟩) n c := haft 1 (op_at ho (fun o => o.after.any fun e => decide (e.on = 1) && Region.binds .any e) (x := true) (by kernel_rfl))
  have e2 : a.eval (.tmp 195) = .int .i64 (kk : Int) := haft 2 (op_at ho (fun o => o.after.any fun e => decide (e.on = 2) && Region.binds .any e) (x := true) (by kernel_rfl))
  refine ⟨fun j b h => (by rw [hgd] at h; cases h), ?_⟩
  have hkz : (kk : Int) < (n : Int) := by omega
  exact specs_value (R := fun v W => mv21S p b of n c kk T T1 sp sn 3 v W) (v := .pointer (some ⟨b, of + kk * 2, none⟩)) (by simp [execOp, hop, go_sem, ev e1, ev e2, hkz]) rfl (Ext.refl W)
set_option maxHeartbeats 1000000 in
theorem mv21_op4 (haft : ∀ j, (o.after.any fun e => decide (e.on = j) && Region.binds .any e) = true → mv21S p b of n c kk T T1 sp sn j (a.eval (.tmp (mv21D j))) W) (ho : mv21Reg[4]? = some o) : mv21Ok p b of n c kk T T1 sp sn Q a W 4 o := by
  have hop := op_at ho (·.op) (x := Op.fieldAddr 65 (Operand.tmp 196) 1) (by kernel_rfl)
  have hgd := op_at ho (·.guard) (x := none) (by kernel_rfl)
  have e3 : a.eval (.tmp 196) = .pointer (some ⟨b, of + kk * 2, none⟩) := haft 3 (op_at ho (fun o => o.after.any fun e => decide (e.on = 3) && Region.binds .any e) (x := true) (by kernel_rfl))
  refine ⟨fun j b h => (by rw [hgd] at h; cases h), ?_⟩
  exact specs_value (R := fun v W => mv21S p b of n c kk T T1 sp sn 4 v W) (v := .pointer (some ⟨b, of + kk * 2 + 1, none⟩)) (by simp [execOp, hop, go_sem, ev e3]) rfl (Ext.refl W)
set_option maxHeartbeats 1000000 in
theorem mv21_op5 (c1 : ∀ W, Ext V W → W.cell? ⟨b, of + kk * 2 + 1, none⟩ = some (.int .i64 T)) (hB : Ext V W) (haft : ∀ j, (o.after.any fun e => decide (e.on = j) && Region.binds .any e) = true → mv21S p b of n c kk T T1 sp sn j (a.eval (.tmp (mv21D j))) W) (ho : mv21Reg[5]? = some o) : mv21Ok p b of n c kk T T1 sp sn Q a W 5 o := by
  have hop := op_at ho (·.op) (x := Op.load 3 (Operand.tmp 197)) (by kernel_rfl)
  have hgd := op_at ho (·.guard) (x := none) (by kernel_rfl)
  have e4 : a.eval (.tmp 197) = .pointer (some ⟨b, of + kk * 2 + 1, none⟩) := haft 4 (op_at ho (fun o => o.after.any fun e => decide (e.on = 4) && Region.binds .any e) (x := true) (by kernel_rfl))
  refine ⟨fun j b h => (by rw [hgd] at h; cases h), ?_⟩
  have c1' := c1 W hB
  exact specs_value (R := fun v W => mv21S p b of n c kk T T1 sp sn 5 v W) (v := .int .i64 T) (by simp [execOp, hop, go_sem, ev e4, c1']) rfl (Ext.refl W)
set_option maxHeartbeats 1000000 in
theorem mv21_op6 (w1 : IntKind.i64.wrap (T - 1) = T1) (haft : ∀ j, (o.after.any fun e => decide (e.on = j) && Region.binds .any e) = true → mv21S p b of n c kk T T1 sp sn j (a.eval (.tmp (mv21D j))) W) (ho : mv21Reg[6]? = some o) : mv21Ok p b of n c kk T T1 sp sn Q a W 6 o := by
  have hop := op_at ho (·.op) (x := Op.binOp BinOp.sub 3 (Operand.tmp 198) (Operand.const (Value.int IntKind.i64 1)) 3) (by kernel_rfl)
  have hgd := op_at ho (·.guard) (x := none) (by kernel_rfl)
  have e5 : a.eval (.tmp 198) = .int .i64 T := haft 5 (op_at ho (fun o => o.after.any fun e => decide (e.on = 5) && Region.binds .any e) (x := true) (by kernel_rfl))
  refine ⟨fun j b h => (by rw [hgd] at h; cases h), ?_⟩
  exact specs_value (R := fun v W => mv21S p b of n c kk T T1 sp sn 6 v W) (v := .int .i64 T1) (by simp [execOp, hop, go_sem, ev e5, w1]) rfl (Ext.refl W)
set_option maxHeartbeats 1000000 in
theorem mv21_op7 (o3 : a.eval (.tmp 3) = .pointer (some ⟨p, 0, none⟩)) (ho : mv21Reg[7]? = some o) : mv21Ok p b of n c kk T T1 sp sn Q a W 7 o := by
  have hop := op_at ho (·.op) (x := Op.fieldAddr 25 (Operand.tmp 3) 0) (by kernel_rfl)
  have hgd := op_at ho (·.guard) (x := none) (by kernel_rfl)
  refine ⟨fun j b h => (by rw [hgd] at h; cases h), ?_⟩
  exact specs_value (R := fun v W => mv21S p b of n c kk T T1 sp sn 7 v W) (v := .pointer (some ⟨p, 0, none⟩)) (by simp [execOp, hop, go_sem, ev o3]) rfl (Ext.refl W)
set_option maxHeartbeats 1000000 in
theorem mv21_op8 (q0 : ∀ W, Ext V W → W.cell? ⟨p, 0, none⟩ = some (.slice (some ⟨b, of, none⟩) n c)) (hB : Ext V W) (haft : ∀ j, (o.after.any fun e => decide (e.on = j) && Region.binds .any e) = true → mv21S p b of n c kk T T1 sp sn j (a.eval (.tmp (mv21D j))) W) (ho : mv21Reg[8]? = some o) : mv21Ok p b of n c kk T T1 sp sn Q a W 8 o := by
  have hop := op_at ho (·.op) (x := Op.load 22 (Operand.tmp 200)) (by kernel_rfl)
  have hgd := op_at ho (·.guard) (x := none) (by kernel_rfl)
  have e7 : a.eval (.tmp 200) = .pointer (some ⟨p, 0, none⟩) := haft 7 (op_at ho (fun o => o.after.any fun e => decide (e.on = 7) && Region.binds .any e) (x := true) (by kernel_rfl))
  refine ⟨fun j b h => (by rw [hgd] at h; cases h), ?_⟩
  have q0' := q0 W hB
  exact specs_value (R := fun v W => mv21S p b of n c kk T T1 sp sn 8 v W) (v := .slice (some ⟨b, of, none⟩) n c) (by simp [execOp, hop, go_sem, ev e7, q0']) rfl (Ext.refl W)
set_option maxHeartbeats 1000000 in
theorem mv21_op9 (o8 : a.eval (.tmp 8) = .int .i64 (kk : Int)) (ho : mv21Reg[9]? = some o) : mv21Ok p b of n c kk T T1 sp sn Q a W 9 o := by
  have hop := op_at ho (·.op) (x := Op.move (Operand.tmp 8)) (by kernel_rfl)
  have hgd := op_at ho (·.guard) (x := none) (by kernel_rfl)
  refine ⟨fun j b h => (by rw [hgd] at h; cases h), ?_⟩
  exact specs_value (R := fun v W => mv21S p b of n c kk T T1 sp sn 9 v W) (v := .int .i64 (kk : Int)) (by simp [execOp, hop, go_sem, ev o8]) rfl (Ext.refl W)
set_option maxHeartbeats 1000000 in
theorem mv21_op10 (hkn : kk < n) (haft : ∀ j, (o.after.any fun e => decide (e.on = j) && Region.binds .any e) = true → mv21S p b of n c kk T T1 sp sn j (a.eval (.tmp (mv21D j))) W) (ho : mv21Reg[10]? = some o) : mv21Ok p b of n c kk T T1 sp sn Q a W 10 o := by
  have hop := op_at ho (·.op) (x := Op.indexAddr 22 (Operand.tmp 201) (Operand.tmp 202)) (by kernel_rfl)
  have hgd := op_at ho (·.guard) (x := none) (by kernel_rfl)
  have e8 : a.eval (.tmp 201) = .slice (some ⟨b, of, none⟩) n c := haft 8 (op_at ho (fun o => o.after.any fun e => decide (e.on = 8) && Region.binds .any e) (x := true) (by kernel_rfl))
  have e9 : a.eval (.tmp 202) = .int .i64 (kk : Int) := haft 9 (op_at ho (fun o => o.after.any fun e => decide (e.on = 9) && Region.binds .any e) (x := true) (by kernel_rfl))
  refine ⟨fun j b h => (by rw [hgd] at h; cases h), ?_⟩
  have hkz : (kk : Int) < (n : Int) := by omega
  exact specs_value (R := fun v W => mv21S p b of n c kk T T1 sp sn 10 v W) (v := .pointer (some ⟨b, of + kk * 2, none⟩)) (by simp [execOp, hop, go_sem, ev e8, ev e9, hkz]) rfl (Ext.refl W)
set_option maxHeartbeats 1000000 in
theorem mv21_op11 (haft : ∀ j, (o.after.any fun e => decide (e.on = j) && Region.binds .any e) = true → mv21S p b of n c kk T T1 sp sn j (a.eval (.tmp (mv21D j))) W) (ho : mv21Reg[11]? = some o) : mv21Ok p b of n c kk T T1 sp sn Q a W 11 o := by
  have hop := op_at ho (·.op) (x := Op.fieldAddr 65 (Operand.tmp 203) 0) (by kernel_rfl)
  have hgd := op_at ho (·.guard) (x := none) (by kernel_rfl)
  have e10 : a.eval (.tmp 203) = .pointer (some ⟨b, of + kk * 2, none⟩) := haft 10 (op_at ho (fun o => o.after.any fun e => decide (e.on = 10) && Region.binds .any e) (x := true) (by kernel_rfl))
  refine ⟨fun j b h => (by rw [hgd] at h; cases h), ?_⟩
  exact specs_value (R := fun v W => mv21S p b of n c kk T T1 sp sn 11 v W) (v := .pointer (some ⟨b, of + kk * 2, none⟩)) (by simp [execOp, hop, go_sem, ev e10]) rfl (Ext.refl W)
set_option maxHeartbeats 1000000 in
theorem mv21_op12 (c0 : ∀ W, Ext V W → W.cell? ⟨b, of + kk * 2, none⟩ = some (.int .i64 sp)) (hB : Ext V W) (haft : ∀ j, (o.after.any fun e => decide (e.on = j) && Region.binds .any e) = true → mv21S p b of n c kk T T1 sp sn j (a.eval (.tmp (mv21D j))) W) (ho : mv21Reg[12]? = some o) : mv21Ok p b of n c kk T T1 sp sn Q a W 12 o := by
  have hop := op_at ho (·.op) (x := Op.load 2 (Operand.tmp 204)) (by kernel_rfl)
  have hgd := op_at ho (·.guard) (x := none) (by kernel_rfl)
  have e11 : a.eval (.tmp 204) = .pointer (some ⟨b, of + kk * 2, none⟩) := haft 11 (op_at ho (fun o => o.after.any fun e => decide (e.on = 11) && Region.binds .any e) (x := true) (by kernel_rfl))
  refine ⟨fun j b h => (by rw [hgd] at h; cases h), ?_⟩
  have c0' := c0 W hB
  exact specs_value (R := fun v W => mv21S p b of n c kk T T1 sp sn 12 v W) (v := .int .i64 sp) (by simp [execOp, hop, go_sem, ev e11, c0']) rfl (Ext.refl W)
set_option maxHeartbeats 1000000 in
theorem mv21_op13 (w2 : IntKind.i64.wrap (T1 * sp) = sn) (haft : ∀ j, (o.after.any fun e => decide (e.on = j) && Region.binds .any e) = true → mv21S p b of n c kk T T1 sp sn j (a.eval (.tmp (mv21D j))) W) (ho : mv21Reg[13]? = some o) : mv21Ok p b of n c kk T T1 sp sn Q a W 13 o := by
  have hop := op_at ho (·.op) (x := Op.binOp BinOp.mul 2 (Operand.tmp 199) (Operand.tmp 205) 2) (by kernel_rfl)
  have hgd := op_at ho (·.guard) (x := none) (by kernel_rfl)
  have e6 : a.eval (.tmp 199) = .int .i64 T1 := haft 6 (op_at ho (fun o => o.after.any fun e => decide (e.on = 6) && Region.binds .any e) (x := true) (by kernel_rfl))
  have e12 : a.eval (.tmp 205) = .int .i64 sp := haft 12 (op_at ho (fun o => o.after.any fun e => decide (e.on = 12) && Region.binds .any e) (x := true) (by kernel_rfl))
  refine ⟨fun j b h => (by rw [hgd] at h; cases h), ?_⟩
  exact specs_value (R := fun v W => mv21S p b of n c kk T T1 sp sn 13 v W) (v := .int .i64 sn) (by simp [execOp, hop, go_sem, ev e6, ev e12, w2]) rfl (Ext.refl W)
set_option maxHeartbeats 1000000 in
theorem mv21_op14 (haft : ∀ j, (o.after.any fun e => decide (e.on = j) && Region.binds .any e) = true → mv21S p b of n c kk T T1 sp sn j (a.eval (.tmp (mv21D j))) W) (ho : mv21Reg[14]? = some o) : mv21Ok p b of n c kk T T1 sp sn Q a W 14 o := by
  have hop := op_at ho (·.op) (x := Op.assign (Operand.tmp 206)) (by kernel_rfl)
  have hgd := op_at ho (·.guard) (x := none) (by kernel_rfl)
  have e13 : a.eval (.tmp 206) = .int .i64 sn := haft 13 (op_at ho (fun o => o.after.any fun e => decide (e.on = 13) && Region.binds .any e) (x := true) (by kernel_rfl))
  refine ⟨fun j b h => (by rw [hgd] at h; cases h), ?_⟩
  exact specs_value (R := fun v W => mv21S p b of n c kk T T1 sp sn 14 v W) (v := .int .i64 sn) (by simp [execOp, hop, go_sem, ev e13]) rfl (Ext.refl W)
set_option maxRecDepth 100000 in
set_option maxHeartbeats 4000000 in
/-- Region 21 of function 12. -/
theorem mv21_wp {id : Nat} (hlen : a.tmps.size = 310) (o3 : a.eval (.tmp 3) = .pointer (some ⟨p, 0, none⟩)) (o8 : a.eval (.tmp 8) = .int .i64 (kk : Int)) (q0 : ∀ W, Ext V W → W.cell? ⟨p, 0, none⟩ = some (.slice (some ⟨b, of, none⟩) n c)) (hkn : kk < n) (c1 : ∀ W, Ext V W → W.cell? ⟨b, of + kk * 2 + 1, none⟩ = some (.int .i64 T)) (w1 : IntKind.i64.wrap (T - 1) = T1) (c0 : ∀ W, Ext V W → W.cell? ⟨b, of + kk * 2, none⟩ = some (.int .i64 sp)) (w2 : IntKind.i64.wrap (T1 * sp) = sn) (K : (∀ W, Ext V W → wpList Try.prog mv21Reg Q (mv21Reg.toList.drop 15) (puts a [(193, .pointer (some ⟨p, 0, none⟩)), (194, .slice (some ⟨b, of, none⟩) n c), (195, .int .i64 (kk : Int)), (196, .pointer (some ⟨b, of + kk * 2, none⟩)), (197, .pointer (some ⟨b, of + kk * 2 + 1, none⟩)), (198, .int .i64 T), (199, .int .i64 T1), (200, .pointer (some ⟨p, 0, none⟩)), (201, .slice (some ⟨b, of, none⟩) n c), (202, .int .i64 (kk : Int)), (203, .pointer (some ⟨b, of + kk * 2, none⟩)), (204, .pointer (some ⟨b, of + kk * 2, none⟩)), (205, .int .i64 sp), (206, .int .i64 sn), (30, .int .i64 sn)]) W)) : (Code.region id mv21Reg true).wp Try.prog Q a V := by
  refine wp_region_specs_free (ops := mv21Reg) 15 (mv21S p b of n c kk T T1 sp sn) (Ext V) (by kernel_rfl) (by rw [hlen]; kernel_rfl) (by kernel_rfl) ⟨rfl, rfl, rfl, Nat.le_refl _, fun _ _ => rfl⟩ (fun _ _ h e => h.trans e) mv21S_ext mv21D (by kernel_rfl) ?_ ?_
  · intro i o hi ho a' W hB hsz hold haft
    match i, hi with
    | 0, _ => exact mv21_op0 ((hold 3 (by kernel_rfl)).trans o3) ho
    | 1, _ => exact mv21_op1 q0 hB haft ho
    | 2, _ => exact mv21_op2 ((hold 8 (by kernel_rfl)).trans o8) ho
    | 3, _ => exact mv21_op3 hkn haft ho
    | 4, _ => exact mv21_op4 haft ho
    | 5, _ => exact mv21_op5 c1 hB haft ho
    | 6, _ => exact mv21_op6 w1 haft ho
    | 7, _ => exact mv21_op7 ((hold 3 (by kernel_rfl)).trans o3) ho
    | 8, _ => exact mv21_op8 q0 hB haft ho
    | 9, _ => exact mv21_op9 ((hold 8 (by kernel_rfl)).trans o8) ho
    | 10, _ => exact mv21_op10 hkn haft ho
    | 11, _ => exact mv21_op11 haft ho
    | 12, _ => exact mv21_op12 c0 hB haft ho
    | 13, _ => exact mv21_op13 w2 haft ho
    | 14, _ => exact mv21_op14 haft ho
    | m + 15, h => exact absurd h (by omega)
  · intro a1 W hB hsz hdf hold hS
    have hall : ∀ z, z ∈ ([(193, .pointer (some ⟨p, 0, none⟩)), (194, .slice (some ⟨b, of, none⟩) n c), (195, .int .i64 (kk : Int)), (196, .pointer (some ⟨b, of + kk * 2, none⟩)), (197, .pointer (some ⟨b, of + kk * 2 + 1, none⟩)), (198, .int .i64 T), (199, .int .i64 T1), (200, .pointer (some ⟨p, 0, none⟩)), (201, .slice (some ⟨b, of, none⟩) n c), (202, .int .i64 (kk : Int)), (203, .pointer (some ⟨b, of + kk * 2, none⟩)), (204, .pointer (some ⟨b, of + kk * 2, none⟩)), (205, .int .i64 sp), (206, .int .i64 sn), (30, .int .i64 sn)] : List (Tmp × Value)) → z.1 < a.tmps.size ∧ a1.eval (.tmp z.1) = z.2 := by
      intro z hz
      rw [hlen]
      simp only [List.mem_cons, List.not_mem_nil, or_false] at hz
      rcases hz with rfl | rfl | rfl | rfl | rfl | rfl | rfl | rfl | rfl | rfl | rfl | rfl | rfl | rfl | rfl
      · exact ⟨(show (193 : Nat) < 310 by omega), hS 0 (by omega)⟩
      · exact ⟨(show (194 : Nat) < 310 by omega), hS 1 (by omega)⟩
      · exact ⟨(show (195 : Nat) < 310 by omega), hS 2 (by omega)⟩
      · exact ⟨(show (196 : Nat) < 310 by omega), hS 3 (by omega)⟩
      · exact ⟨(show (197 : Nat) < 310 by omega), hS 4 (by omega)⟩
      · exact ⟨(show (198 : Nat) < 310 by omega), hS 5 (by omega)⟩
      · exact ⟨(show (199 : Nat) < 310 by omega), hS 6 (by omega)⟩
      · exact ⟨(show (200 : Nat) < 310 by omega), hS 7 (by omega)⟩
      · exact ⟨(show (201 : Nat) < 310 by omega), hS 8 (by omega)⟩
      · exact ⟨(show (202 : Nat) < 310 by omega), hS 9 (by omega)⟩
      · exact ⟨(show (203 : Nat) < 310 by omega), hS 10 (by omega)⟩
      · exact ⟨(show (204 : Nat) < 310 by omega), hS 11 (by omega)⟩
      · exact ⟨(show (205 : Nat) < 310 by omega), hS 12 (by omega)⟩
      · exact ⟨(show (206 : Nat) < 310 by omega), hS 13 (by omega)⟩
      · exact ⟨(show (30 : Nat) < 310 by omega), hS 14 (by omega)⟩
    have ha := act_puts hsz hdf hall (fun t ht => hold t (all_ne_of (l := [(193, .pointer (some ⟨p, 0, none⟩)), (194, .slice (some ⟨b, of, none⟩) n c), (195, .int .i64 (kk : Int)), (196, .pointer (some ⟨b, of + kk * 2, none⟩)), (197, .pointer (some ⟨b, of + kk * 2 + 1, none⟩)), (198, .int .i64 T), (199, .int .i64 T1), (200, .pointer (some ⟨p, 0, none⟩)), (201, .slice (some ⟨b, of, none⟩) n c), (202, .int .i64 (kk : Int)), (203, .pointer (some ⟨b, of + kk * 2, none⟩)), (204, .pointer (some ⟨b, of + kk * 2, none⟩)), (205, .int .i64 sp), (206, .int .i64 sn), (30, .int .i64 sn)]) (by kernel_rfl) ht))
    rw [ha]
    exact K W  hB 
end

/-- The slots of region 25 of function 12. -/
def mv25D (i : Nat) : Tmp := if i = 0 then 213 else if i = 1 then 214 else if i = 2 then 215 else if i = 3 then 216 else if i = 4 then 217 else if i = 5 then 218 else if i = 6 then 219 else if i = 7 then 220 else if i = 8 then 221 else if i = 9 then 222 else if i = 10 then 223 else if i = 11 then 224 else if i = 12 then 225 else if i = 13 then 226 else if i = 14 then 227 else 228
/-- What each operation yields. -/
def mv25S (b1 o1 m1 k1 b2 o2 m2 k2 jj q1 q2 : Nat) (u x x1 x2 sn : Int) (r : Bool) (ix : Nat) (v : Value) (_W : World) : Prop :=
  match ix with
  | 0 => v = .slice (some ⟨b2, o2, none⟩) m2 k2
  | 1 => v = .slice (some ⟨b2, o2, none⟩) m2 k2
  | 2 => v = .int .i64 (m2 : Int)
  | 3 => v = .int .i64 (q1 : Int)
  | 4 => v = .int .i64 (jj : Int)
  | 5 => v = .int .i64 (q2 : Int)
  | 6 => v = .pointer (some ⟨b2, o2 + q2, none⟩)
  | 7 => v = .int .i64 u
  | 8 => v = .slice (some ⟨b1, o1, none⟩) m1 k1
  | 9 => v = .int .i64 (jj : Int)
  | 10 => v = .pointer (some ⟨b1, o1 + jj, none⟩)
  | 11 => v = .int .i64 x
  | 12 => v = .int .i64 x1
  | 13 => v = .int .i64 sn
  | 14 => v = .int .i64 x2
  | 15 => v = .bool r
  | _ => True
noncomputable def mv25Reg : Array Oper := (Try.f12.body.bind (regionOf · 25)).getD #[]
theorem mv25S_ext {b1 o1 m1 k1 b2 o2 m2 k2 jj q1 q2 : Nat} {u x x1 x2 sn : Int} {r : Bool} : ∀ (i : Nat) (v : Value) (W W' : World), mv25S b1 o1 m1 k1 b2 o2 m2 k2 jj q1 q2 u x x1 x2 sn r i v W → Below W.heap.size W W' → mv25S b1 o1 m1 k1 b2 o2 m2 k2 jj q1 q2 u x x1 x2 sn r i v W' := by
  intro i v W W' h e
  match i with
  | 0 => exact h
  | 1 => exact h
  | 2 => exact h
  | 3 => exact h
  | 4 => exact h
  | 5 => exact h
  | 6 => exact h
  | 7 => exact h
  | 8 => exact h
  | 9 => exact h
  | 10 => exact h
  | 11 => exact h
  | 12 => exact h
  | 13 => exact h
  | 14 => exact h
  | 15 => exact h
  | k + 16 => exact trivial
def mv25Ok (b1 o1 m1 k1 b2 o2 m2 k2 jj q1 q2 : Nat) (u x x1 x2 sn : Int) (r : Bool) (Q : Exit → Act → World → Prop) (a : Act) (W : World) (ix : Nat) (o : Oper) : Prop :=
  (∀ j b, o.guard = some (j, b) → a.eval (.tmp (mv25D j)) = .bool b) ∧ o.wp Try.prog a W (fun a'' W' => ∃ v, a'' = a.put o.dst v ∧ mv25S b1 o1 m1 k1 b2 o2 m2 k2 jj q1 q2 u x x1 x2 sn r ix v W' ∧ Below W.heap.size W W') Q
section
variable {b1 o1 m1 k1 b2 o2 m2 k2 jj q1 q2 : Nat} {u x x1 x2 sn : Int} {r : Bool} {Q : Exit → Act → World → Prop} {a : Act} {V W : World} {o : Oper}
set_option maxHeartbeats 1000000 in
theorem mv25_op0 (o20 : a.eval (.tmp 20) = .slice (some ⟨b2, o2, none⟩) m2 k2) (ho : mv25Reg[0]? = some o) : mv25Ok b1 o1 m1 k1 b2 o2 m2 k2 jj q1 q2 u x x1 x2 sn r Q a W 0 o := by
  have hop := op_at ho (·.op) (x := Op.move (Operand.tmp 20)) (by kernel_rfl)
  have hgd := op_at ho (·.guard) (x := none) (by kernel_rfl)
  refine ⟨fun j b h => (by rw [hgd] at h; cases h), ?_⟩
  exact specs_value (R := fun v W => mv25S b1 o1 m1 k1 b2 o2 m2 k2 jj q1 q2 u x x1 x2 sn r 0 v W) (v := .slice (some ⟨b2, o2, none⟩) m2 k2) (by simp [execOp, hop, go_sem, ev o20]) rfl (Ext.refl W)
set_option maxHeartbeats 1000000 in
theorem mv25_op1 (o20 : a.eval (.tmp 20) = .slice (some ⟨b2, o2, none⟩) m2 k2) (ho : mv25Reg[1]? = some o) : mv25Ok b1 o1 m1 k1 b2 o2 m2 k2 jj q1 q2 u x x1 x2 sn r Q a W 1 o := by
  have hop := op_at ho (·.op) (x := Op.move (Operand.tmp 20)) (by kernel_rfl)
  have hgd := op_at ho (·.guard) (x := none) (by kernel_rfl)
  refine ⟨fun j b h => (by rw [hgd] at h; cases h), ?_⟩
  exact specs_value (R := fun v W => mv25S b1 o1 m1 k1 b2 o2 m2 k2 jj q1 q2 u x x1 x2 sn r 1 v W) (v := .slice (some ⟨b2, o2, none⟩) m2 k2) (by simp [execOp, hop, go_sem, ev o20]) rfl (Ext.refl W)
set_option maxHeartbeats 1000000 in
theorem mv25_op2 (haft : ∀ j, (o.after.any fun e => decide (e.on = j) && Region.binds .any e) = true → mv25S b1 o1 m1 k1 b2 o2 m2 k2 jj q1 q2 u x x1 x2 sn r j (a.eval (.tmp (mv25D j))) W) (ho : mv25Reg[2]? = some o) : mv25Ok b1 o1 m1 k1 b2 o2 m2 k2 jj q1 q2 u x x1 x2 sn r Q a W 2 o := by
  have hop := op_at ho (·.op) (x := Op.call { callee := Callee.builtin Builtin.len, args := #[Operand.tmp 214], argTypes := #[34] }) (by kernel_rfl)
  have hgd := op_at ho (·.guard) (x := none) (by kernel_rfl)
  have e1 : a.eval (.tmp 214) = .slice (some ⟨b2, o2, none⟩) m2 k2 := haft 1 (op_at ho (fun o => o.after.any fun e => decide (e.on = 1) && Region.binds .any e) (x := true) (by kernel_rfl))
  refine ⟨fun j b h => (by rw [hgd] at h; cases h), ?_⟩
  exact specs_value (R := fun v W => mv25S b1 o1 m1 k1 b2 o2 m2 k2 jj q1 q2 u x x1 x2 sn r 2 v W) (v := .int .i64 (m2 : Int)) (by simp [execOp, hop, go_sem, ev e1]) rfl (Ext.refl W)
set_option maxHeartbeats 1000000 in
theorem mv25_op3 (w1 : IntKind.i64.wrap ((m2 : Int) - 1) = (q1 : Int)) (haft : ∀ j, (o.after.any fun e => decide (e.on = j) && Region.binds .any e) = true → mv25S b1 o1 m1 k1 b2 o2 m2 k2 jj q1 q2 u x x1 x2 sn r j (a.eval (.tmp (mv25D j))) W) (ho : mv25Reg[3]? = some o) : mv25Ok b1 o1 m1 k1 b2 o2 m2 k2 jj q1 q2 u x x1 x2 sn r Q a W 3 o := by
  have hop := op_at ho (·.op) (x := Op.binOp BinOp.sub 3 (Operand.tmp 215) (Operand.const (Value.int IntKind.i64 1)) 3) (by kernel_rfl)
  have hgd := op_at ho (·.guard) (x := none) (by kernel_rfl)
  have e2 : a.eval (.tmp 215) = .int .i64 (m2 : Int) := haft 2 (op_at ho (fun o => o.after.any fun e => decide (e.on = 2) && Region.binds .any e) (x := true) (by kernel_rfl))
  refine ⟨fun j b h => (by rw [hgd] at h; cases h), ?_⟩
  exact specs_value (R := fun v W => mv25S b1 o1 m1 k1 b2 o2 m2 k2 jj q1 q2 u x x1 x2 sn r 3 v W) (v := .int .i64 (q1 : Int)) (by simp [execOp, hop, go_sem, ev e2, w1]) rfl (Ext.refl W)
set_option maxHeartbeats 1000000 in
theorem mv25_op4 (o31 : a.eval (.tmp 31) = .int .i64 (jj : Int)) (ho : mv25Reg[4]? = some o) : mv25Ok b1 o1 m1 k1 b2 o2 m2 k2 jj q1 q2 u x x1 x2 sn r Q a W 4 o := by
  have hop := op_at ho (·.op) (x := Op.move (Operand.tmp 31)) (by kernel_rfl)
  have hgd := op_at ho (·.guard) (x := none) (by kernel_rfl)
  refine ⟨fun j b h => (by rw [hgd] at h; cases h), ?_⟩
  exact specs_value (R := fun v W => mv25S b1 o1 m1 k1 b2 o2 m2 k2 jj q1 q2 u x x1 x2 sn r 4 v W) (v := .int .i64 (jj : Int)) (by simp [execOp, hop, go_sem, ev o31]) rfl (Ext.refl W)
set_option maxHeartbeats 1000000 in
theorem mv25_op5 (w2 : IntKind.i64.wrap ((q1 : Int) - (jj : Int)) = (q2 : Int)) (haft : ∀ j, (o.after.any fun e => decide (e.on = j) && Region.binds .any e) = true → mv25S b1 o1 m1 k1 b2 o2 m2 k2 jj q1 q2 u x x1 x2 sn r j (a.eval (.tmp (mv25D j))) W) (ho : mv25Reg[5]? = some o) : mv25Ok b1 o1 m1 k1 b2 o2 m2 k2 jj q1 q2 u x x1 x2 sn r Q a W 5 o := by
  have hop := op_at ho (·.op) (x := Op.binOp BinOp.sub 3 (Operand.tmp 216) (Operand.tmp 217) 3) (by kernel_rfl)
  have hgd := op_at ho (·.guard) (x := none) (by kernel_rfl)
  have e3 : a.eval (.tmp 216) = .int .i64 (q1 : Int) := haft 3 (op_at ho (fun o => o.after.any fun e => decide (e.on = 3) && Region.binds .any e) (x := true) (by kernel_rfl))
  have e4 : a.eval (.tmp 217) = .int .i64 (jj : Int) := haft 4 (op_at ho (fun o => o.after.any fun e => decide (e.on = 4) && Region.binds .any e) (x := true) (by kernel_rfl))
  refine ⟨fun j b h => (by rw [hgd] at h; cases h), ?_⟩
  exact specs_value (R := fun v W => mv25S b1 o1 m1 k1 b2 o2 m2 k2 jj q1 q2 u x x1 x2 sn r 5 v W) (v := .int .i64 (q2 : Int)) (by simp [execOp, hop, go_sem, ev e3, ev e4, w2]) rfl (Ext.refl W)
set_option maxHeartbeats 1000000 in
theorem mv25_op6 (hq : q2 < m2) (haft : ∀ j, (o.after.any fun e => decide (e.on = j) && Region.binds .any e) = true → mv25S b1 o1 m1 k1 b2 o2 m2 k2 jj q1 q2 u x x1 x2 sn r j (a.eval (.tmp (mv25D j))) W) (ho : mv25Reg[6]? = some o) : mv25Ok b1 o1 m1 k1 b2 o2 m2 k2 jj q1 q2 u x x1 x2 sn r Q a W 6 o := by
  have hop := op_at ho (·.op) (x := Op.indexAddr 34 (Operand.tmp 213) (Operand.tmp 218)) (by kernel_rfl)
  have hgd := op_at ho (·.guard) (x := none) (by kernel_rfl)
  have e0 : a.eval (.tmp 213) = .slice (some ⟨b2, o2, none⟩) m2 k2 := haft 0 (op_at ho (fun o => o.after.any fun e => decide (e.on = 0) && Region.binds .any e) (x := true) (by kernel_rfl))
  have e5 : a.eval (.tmp 218) = .int .i64 (q2 : Int) := haft 5 (op_at ho (fun o => o.after.any fun e => decide (e.on = 5) && Region.binds .any e) (x := true) (by kernel_rfl))
  refine ⟨fun j b h => (by rw [hgd] at h; cases h), ?_⟩
  have hqz : (q2 : Int) < (m2 : Int) := by omega
  exact specs_value (R := fun v W => mv25S b1 o1 m1 k1 b2 o2 m2 k2 jj q1 q2 u x x1 x2 sn r 6 v W) (v := .pointer (some ⟨b2, o2 + q2, none⟩)) (by simp [execOp, hop, go_sem, ev e0, ev e5, hqz]) rfl (Ext.refl W)
set_option maxHeartbeats 1000000 in
theorem mv25_op7 (c0 : ∀ W, Ext V W → W.cell? ⟨b2, o2 + q2, none⟩ = some (.int .i64 u)) (hB : Ext V W) (haft : ∀ j, (o.after.any fun e => decide (e.on = j) && Region.binds .any e) = true → mv25S b1 o1 m1 k1 b2 o2 m2 k2 jj q1 q2 u x x1 x2 sn r j (a.eval (.tmp (mv25D j))) W) (ho : mv25Reg[7]? = some o) : mv25Ok b1 o1 m1 k1 b2 o2 m2 k2 jj q1 q2 u x x1 x2 sn r Q a W 7 o := by
  have hop := op_at ho (·.op) (x := Op.load 2 (Operand.tmp 219)) (by kernel_rfl)
  have hgd := op_at ho (·.guard) (x := none) (by kernel_rfl)
  have e6 : a.eval (.tmp 219) = .pointer (some ⟨b2, o2 + q2, none⟩) := haft 6 (op_at ho (fun o => o.after.any fun e => decide (e.on = 6) && Region.binds .any e) (x := true) (by kernel_rfl))
  refine ⟨fun j b h => (by rw [hgd] at h; cases h), ?_⟩
  have c0' := c0 W hB
  exact specs_value (R := fun v W => mv25S b1 o1 m1 k1 b2 o2 m2 k2 jj q1 q2 u x x1 x2 sn r 7 v W) (v := .int .i64 u) (by simp [execOp, hop, go_sem, ev e6, c0']) rfl (Ext.refl W)
set_option maxHeartbeats 1000000 in
theorem mv25_op8 (o18 : a.eval (.tmp 18) = .slice (some ⟨b1, o1, none⟩) m1 k1) (ho : mv25Reg[8]? = some o) : mv25Ok b1 o1 m1 k1 b2 o2 m2 k2 jj q1 q2 u x x1 x2 sn r Q a W 8 o := by
  have hop := op_at ho (·.op) (x := Op.move (Operand.tmp 18)) (by kernel_rfl)
  have hgd := op_at ho (·.guard) (x := none) (by kernel_rfl)
  refine ⟨fun j b h => (by rw [hgd] at h; cases h), ?_⟩
  exact specs_value (R := fun v W => mv25S b1 o1 m1 k1 b2 o2 m2 k2 jj q1 q2 u x x1 x2 sn r 8 v W) (v := .slice (some ⟨b1, o1, none⟩) m1 k1) (by simp [execOp, hop, go_sem, ev o18]) rfl (Ext.refl W)
set_option maxHeartbeats 1000000 in
theorem mv25_op9 (o31 : a.eval (.tmp 31) = .int .i64 (jj : Int)) (ho : mv25Reg[9]? = some o) : mv25Ok b1 o1 m1 k1 b2 o2 m2 k2 jj q1 q2 u x x1 x2 sn r Q a W 9 o := by
  have hop := op_at ho (·.op) (x := Op.move (Operand.tmp 31)) (by kernel_rfl)
  have hgd := op_at ho (·.guard) (x := none) (by kernel_rfl)
  refine ⟨fun j b h => (by rw [hgd] at h; cases h), ?_⟩
  exact specs_value (R := fun v W => mv25S b1 o1 m1 k1 b2 o2 m2 k2 jj q1 q2 u x x1 x2 sn r 9 v W) (v := .int .i64 (jj : Int)) (by simp [execOp, hop, go_sem, ev o31]) rfl (Ext.refl W)
set_option maxHeartbeats 1000000 in
theorem mv25_op10 (hj : jj < m1) (haft : ∀ j, (o.after.any fun e => decide (e.on = j) && Region.binds .any e) = true → mv25S b1 o1 m1 k1 b2 o2 m2 k2 jj q1 q2 u x x1 x2 sn r j (a.eval (.tmp (mv25D j))) W) (ho : mv25Reg[10]? = some o) : mv25Ok b1 o1 m1 k1 b2 o2 m2 k2 jj q1 q2 u x x1 x2 sn r Q a W 10 o := by
  have hop := op_at ho (·.op) (x := Op.indexAddr 34 (Operand.tmp 221) (Operand.tmp 222)) (by kernel_rfl)
  have hgd := op_at ho (·.guard) (x := none) (by kernel_rfl)
  have e8 : a.eval (.tmp 221) = .slice (some ⟨b1, o1, none⟩) m1 k1 := haft 8 (op_at ho (fun o => o.after.any fun e => decide (e.on = 8) && Region.binds .any e) (x := true) (by kernel_rfl))
  have e9 : a.eval (.tmp 222) = .int .i64 (jj : Int) := haft 9 (op_at ho (fun o => o.after.any fun e => decide (e.on = 9) && Region.binds .any e) (x := true) (by kernel_rfl))
  refine ⟨fun j b h => (by rw [hgd] at h; cases h), ?_⟩
  have hjz : (jj : Int) < (m1 : Int) := by omega
  exact specs_value (R := fun v W => mv25S b1 o1 m1 k1 b2 o2 m2 k2 jj q1 q2 u x x1 x2 sn r 10 v W) (v := .pointer (some ⟨b1, o1 + jj, none⟩)) (by simp [execOp, hop, go_sem, ev e8, ev e9, hjz]) rfl (Ext.refl W)
set_option maxHeartbeats 1000000 in
theorem mv25_op11 (c1 : ∀ W, Ext V W → W.cell? ⟨b1, o1 + jj, none⟩ = some (.int .i64 x)) (hB : Ext V W) (haft : ∀ j, (o.after.any fun e => decide (e.on = j) && Region.binds .any e) = true → mv25S b1 o1 m1 k1 b2 o2 m2 k2 jj q1 q2 u x x1 x2 sn r j (a.eval (.tmp (mv25D j))) W) (ho : mv25Reg[11]? = some o) : mv25Ok b1 o1 m1 k1 b2 o2 m2 k2 jj q1 q2 u x x1 x2 sn r Q a W 11 o := by
  have hop := op_at ho (·.op) (x := Op.load 2 (Operand.tmp 223)) (by kernel_rfl)
  have hgd := op_at ho (·.guard) (x := none) (by kernel_rfl)
  have e10 : a.eval (.tmp 223) = .pointer (some ⟨b1, o1 + jj, none⟩) := haft 10 (op_at ho (fun o => o.after.any fun e => decide (e.on = 10) && Region.binds .any e) (x := true) (by kernel_rfl))
  refine ⟨fun j b h => (by rw [hgd] at h; cases h), ?_⟩
  have c1' := c1 W hB
  exact specs_value (R := fun v W => mv25S b1 o1 m1 k1 b2 o2 m2 k2 jj q1 q2 u x x1 x2 sn r 11 v W) (v := .int .i64 x) (by simp [execOp, hop, go_sem, ev e10, c1']) rfl (Ext.refl W)
set_option maxHeartbeats 1000000 in
theorem mv25_op12 (w3 : IntKind.i64.wrap (500 - x) = x1) (haft : ∀ j, (o.after.any fun e => decide (e.on = j) && Region.binds .any e) = true → mv25S b1 o1 m1 k1 b2 o2 m2 k2 jj q1 q2 u x x1 x2 sn r j (a.eval (.tmp (mv25D j))) W) (ho : mv25Reg[12]? = some o) : mv25Ok b1 o1 m1 k1 b2 o2 m2 k2 jj q1 q2 u x x1 x2 sn r Q a W 12 o := by
  have hop := op_at ho (·.op) (x := Op.binOp BinOp.sub 2 (Operand.const (Value.int IntKind.i64 500)) (Operand.tmp 224) 2) (by kernel_rfl)
  have hgd := op_at ho (·.guard) (x := none) (by kernel_rfl)
  have e11 : a.eval (.tmp 224) = .int .i64 x := haft 11 (op_at ho (fun o => o.after.any fun e => decide (e.on = 11) && Region.binds .any e) (x := true) (by kernel_rfl))
  refine ⟨fun j b h => (by rw [hgd] at h; cases h), ?_⟩
  exact specs_value (R := fun v W => mv25S b1 o1 m1 k1 b2 o2 m2 k2 jj q1 q2 u x x1 x2 sn r 12 v W) (v := .int .i64 x1) (by simp [execOp, hop, go_sem, ev e11, w3]) rfl (Ext.refl W)
set_option maxHeartbeats 1000000 in
theorem mv25_op13 (o30 : a.eval (.tmp 30) = .int .i64 sn) (ho : mv25Reg[13]? = some o) : mv25Ok b1 o1 m1 k1 b2 o2 m2 k2 jj q1 q2 u x x1 x2 sn r Q a W 13 o := by
  have hop := op_at ho (·.op) (x := Op.move (Operand.tmp 30)) (by kernel_rfl)
  have hgd := op_at ho (·.guard) (x := none) (by kernel_rfl)
  refine ⟨fun j b h => (by rw [hgd] at h; cases h), ?_⟩
  exact specs_value (R := fun v W => mv25S b1 o1 m1 k1 b2 o2 m2 k2 jj q1 q2 u x x1 x2 sn r 13 v W) (v := .int .i64 sn) (by simp [execOp, hop, go_sem, ev o30]) rfl (Ext.refl W)
set_option maxHeartbeats 1000000 in
theorem mv25_op14 (w4 : IntKind.i64.wrap (x1 - sn) = x2) (haft : ∀ j, (o.after.any fun e => decide (e.on = j) && Region.binds .any e) = true → mv25S b1 o1 m1 k1 b2 o2 m2 k2 jj q1 q2 u x x1 x2 sn r j (a.eval (.tmp (mv25D j))) W) (ho : mv25Reg[14]? = some o) : mv25Ok b1 o1 m1 k1 b2 o2 m2 k2 jj q1 q2 u x x1 x2 sn r Q a W 14 o := by
  have hop := op_at ho (·.op) (x := Op.binOp BinOp.sub 2 (Operand.tmp 225) (Operand.tmp 226) 2) (by kernel_rfl)
  have hgd := op_at ho (·.guard) (x := none) (by kernel_rfl)
  have e12 : a.eval (.tmp 225) = .int .i64 x1 := haft 12 (op_at ho (fun o => o.after.any fun e => decide (e.on = 12) && Region.binds .any e) (x := true) (by kernel_rfl))
  have e13 : a.eval (.tmp 226) = .int .i64 sn := haft 13 (op_at ho (fun o => o.after.any fun e => decide (e.on = 13) && Region.binds .any e) (x := true) (by kernel_rfl))
  refine ⟨fun j b h => (by rw [hgd] at h; cases h), ?_⟩
  exact specs_value (R := fun v W => mv25S b1 o1 m1 k1 b2 o2 m2 k2 jj q1 q2 u x x1 x2 sn r 14 v W) (v := .int .i64 x2) (by simp [execOp, hop, go_sem, ev e12, ev e13, w4]) rfl (Ext.refl W)
set_option maxHeartbeats 1000000 in
theorem mv25_op15 (hr : (u != x2) = r) (haft : ∀ j, (o.after.any fun e => decide (e.on = j) && Region.binds .any e) = true → mv25S b1 o1 m1 k1 b2 o2 m2 k2 jj q1 q2 u x x1 x2 sn r j (a.eval (.tmp (mv25D j))) W) (ho : mv25Reg[15]? = some o) : mv25Ok b1 o1 m1 k1 b2 o2 m2 k2 jj q1 q2 u x x1 x2 sn r Q a W 15 o := by
  have hop := op_at ho (·.op) (x := Op.binOp BinOp.neq 2 (Operand.tmp 220) (Operand.tmp 227) 2) (by kernel_rfl)
  have hgd := op_at ho (·.guard) (x := none) (by kernel_rfl)
  have e7 : a.eval (.tmp 220) = .int .i64 u := haft 7 (op_at ho (fun o => o.after.any fun e => decide (e.on = 7) && Region.binds .any e) (x := true) (by kernel_rfl))
  have e14 : a.eval (.tmp 227) = .int .i64 x2 := haft 14 (op_at ho (fun o => o.after.any fun e => decide (e.on = 14) && Region.binds .any e) (x := true) (by kernel_rfl))
  refine ⟨fun j b h => (by rw [hgd] at h; cases h), ?_⟩
  exact specs_value (R := fun v W => mv25S b1 o1 m1 k1 b2 o2 m2 k2 jj q1 q2 u x x1 x2 sn r 15 v W) (v := .bool r) (by simp [execOp, hop, go_sem, ev e7, ev e14, hr]) rfl (Ext.refl W)
set_option maxRecDepth 100000 in
set_option maxHeartbeats 4000000 in
/-- Region 25 of function 12. -/
theorem mv25_wp {id : Nat} (hlen : a.tmps.size = 310) (o18 : a.eval (.tmp 18) = .slice (some ⟨b1, o1, none⟩) m1 k1) (o20 : a.eval (.tmp 20) = .slice (some ⟨b2, o2, none⟩) m2 k2) (o30 : a.eval (.tmp 30) = .int .i64 sn) (o31 : a.eval (.tmp 31) = .int .i64 (jj : Int)) (w1 : IntKind.i64.wrap ((m2 : Int) - 1) = (q1 : Int)) (w2 : IntKind.i64.wrap ((q1 : Int) - (jj : Int)) = (q2 : Int)) (hq : q2 < m2) (c0 : ∀ W, Ext V W → W.cell? ⟨b2, o2 + q2, none⟩ = some (.int .i64 u)) (hj : jj < m1) (c1 : ∀ W, Ext V W → W.cell? ⟨b1, o1 + jj, none⟩ = some (.int .i64 x)) (w3 : IntKind.i64.wrap (500 - x) = x1) (w4 : IntKind.i64.wrap (x1 - sn) = x2) (hr : (u != x2) = r) (K : (∀ W, Ext V W → wpList Try.prog mv25Reg Q (mv25Reg.toList.drop 16) (puts a [(213, .slice (some ⟨b2, o2, none⟩) m2 k2), (214, .slice (some ⟨b2, o2, none⟩) m2 k2), (215, .int .i64 (m2 : Int)), (216, .int .i64 (q1 : Int)), (217, .int .i64 (jj : Int)), (218, .int .i64 (q2 : Int)), (219, .pointer (some ⟨b2, o2 + q2, none⟩)), (220, .int .i64 u), (221, .slice (some ⟨b1, o1, none⟩) m1 k1), (222, .int .i64 (jj : Int)), (223, .pointer (some ⟨b1, o1 + jj, none⟩)), (224, .int .i64 x), (225, .int .i64 x1), (226, .int .i64 sn), (227, .int .i64 x2), (228, .bool r)]) W)) : (Code.region id mv25Reg true).wp Try.prog Q a V := by
  refine wp_region_specs_free (ops := mv25Reg) 16 (mv25S b1 o1 m1 k1 b2 o2 m2 k2 jj q1 q2 u x x1 x2 sn r) (Ext V) (by kernel_rfl) (by rw [hlen]; kernel_rfl) (by kernel_rfl) ⟨rfl, rfl, rfl, Nat.le_refl _, fun _ _ => rfl⟩ (fun _ _ h e => h.trans e) mv25S_ext mv25D (by kernel_rfl) ?_ ?_
  · intro i o hi ho a' W hB hsz hold haft
    match i, hi with
    | 0, _ => exact mv25_op0 ((hold 20 (by kernel_rfl)).trans o20) ho
    | 1, _ => exact mv25_op1 ((hold 20 (by kernel_rfl)).trans o20) ho
    | 2, _ => exact mv25_op2 haft ho
    | 3, _ => exact mv25_op3 w1 haft ho
    | 4, _ => exact mv25_op4 ((hold 31 (by kernel_rfl)).trans o31) ho
    | 5, _ => exact mv25_op5 w2 haft ho
    | 6, _ => exact mv25_op6 hq haft ho
    | 7, _ => exact mv25_op7 c0 hB haft ho
    | 8, _ => exact mv25_op8 ((hold 18 (by kernel_rfl)).trans o18) ho
    | 9, _ => exact mv25_op9 ((hold 31 (by kernel_rfl)).trans o31) ho
    | 10, _ => exact mv25_op10 hj haft ho
    | 11, _ => exact mv25_op11 c1 hB haft ho
    | 12, _ => exact mv25_op12 w3 haft ho
    | 13, _ => exact mv25_op13 ((hold 30 (by kernel_rfl)).trans o30) ho
    | 14, _ => exact mv25_op14 w4 haft ho
    | 15, _ => exact mv25_op15 hr haft ho
    | m + 16, h => exact absurd h (by omega)
  · intro a1 W hB hsz hdf hold hS
    have hall : ∀ z, z ∈ ([(213, .slice (some ⟨b2, o2, none⟩) m2 k2), (214, .slice (some ⟨b2, o2, none⟩) m2 k2), (215, .int .i64 (m2 : Int)), (216, .int .i64 (q1 : Int)), (217, .int .i64 (jj : Int)), (218, .int .i64 (q2 : Int)), (219, .pointer (some ⟨b2, o2 + q2, none⟩)), (220, .int .i64 u), (221, .slice (some ⟨b1, o1, none⟩) m1 k1), (222, .int .i64 (jj : Int)), (223, .pointer (some ⟨b1, o1 + jj, none⟩)), (224, .int .i64 x), (225, .int .i64 x1), (226, .int .i64 sn), (227, .int .i64 x2), (228, .bool r)] : List (Tmp × Value)) → z.1 < a.tmps.size ∧ a1.eval (.tmp z.1) = z.2 := by
      intro z hz
      rw [hlen]
      simp only [List.mem_cons, List.not_mem_nil, or_false] at hz
      rcases hz with rfl | rfl | rfl | rfl | rfl | rfl | rfl | rfl | rfl | rfl | rfl | rfl | rfl | rfl | rfl | rfl
      · exact ⟨(show (213 : Nat) < 310 by omega), hS 0 (by omega)⟩
      · exact ⟨(show (214 : Nat) < 310 by omega), hS 1 (by omega)⟩
      · exact ⟨(show (215 : Nat) < 310 by omega), hS 2 (by omega)⟩
      · exact ⟨(show (216 : Nat) < 310 by omega), hS 3 (by omega)⟩
      · exact ⟨(show (217 : Nat) < 310 by omega), hS 4 (by omega)⟩
      · exact ⟨(show (218 : Nat) < 310 by omega), hS 5 (by omega)⟩
      · exact ⟨(show (219 : Nat) < 310 by omega), hS 6 (by omega)⟩
      · exact ⟨(show (220 : Nat) < 310 by omega), hS 7 (by omega)⟩
      · exact ⟨(show (221 : Nat) < 310 by omega), hS 8 (by omega)⟩
      · exact ⟨(show (222 : Nat) < 310 by omega), hS 9 (by omega)⟩
      · exact ⟨(show (223 : Nat) < 310 by omega), hS 10 (by omega)⟩
      · exact ⟨(show (224 : Nat) < 310 by omega), hS 11 (by omega)⟩
      · exact ⟨(show (225 : Nat) < 310 by omega), hS 12 (by omega)⟩
      · exact ⟨(show (226 : Nat) < 310 by omega), hS 13 (by omega)⟩
      · exact ⟨(show (227 : Nat) < 310 by omega), hS 14 (by omega)⟩
      · exact ⟨(show (228 : Nat) < 310 by omega), hS 15 (by omega)⟩
    have ha := act_puts hsz hdf hall (fun t ht => hold t (all_ne_of (l := [(213, .slice (some ⟨b2, o2, none⟩) m2 k2), (214, .slice (some ⟨b2, o2, none⟩) m2 k2), (215, .int .i64 (m2 : Int)), (216, .int .i64 (q1 : Int)), (217, .int .i64 (jj : Int)), (218, .int .i64 (q2 : Int)), (219, .pointer (some ⟨b2, o2 + q2, none⟩)), (220, .int .i64 u), (221, .slice (some ⟨b1, o1, none⟩) m1 k1), (222, .int .i64 (jj : Int)), (223, .pointer (some ⟨b1, o1 + jj, none⟩)), (224, .int .i64 x), (225, .int .i64 x1), (226, .int .i64 sn), (227, .int .i64 x2), (228, .bool r)]) (by kernel_rfl) ht))
    rw [ha]
    exact K W  hB 
end

/-- The slots of region 38 of function 12. -/
def mv38D (i : Nat) : Tmp := if i = 0 then 298 else if i = 1 then 299 else if i = 2 then 300 else if i = 3 then 301 else if i = 4 then 302 else if i = 5 then 303 else if i = 6 then 304 else if i = 7 then 305 else if i = 8 then 306 else if i = 9 then 307 else 308
/-- What each operation yields. -/
def mv38S (b1 o1 m1 k1 b2 o2 m2 k2 jj : Nat) (u x x1 off : Int) (r : Bool) (ix : Nat) (v : Value) (_W : World) : Prop :=
  match ix with
  | 0 => v = .slice (some ⟨b2, o2, none⟩) m2 k2
  | 1 => v = .int .i64 (jj : Int)
  | 2 => v = .pointer (some ⟨b2, o2 + jj, none⟩)
  | 3 => v = .int .i64 u
  | 4 => v = .slice (some ⟨b1, o1, none⟩) m1 k1
  | 5 => v = .int .i64 (jj : Int)
  | 6 => v = .pointer (some ⟨b1, o1 + jj, none⟩)
  | 7 => v = .int .i64 x
  | 8 => v = .int .i64 off
  | 9 => v = .int .i64 x1
  | 10 => v = .bool r
  | _ => True
noncomputable def mv38Reg : Array Oper := (Try.f12.body.bind (regionOf · 38)).getD #[]
theorem mv38S_ext {b1 o1 m1 k1 b2 o2 m2 k2 jj : Nat} {u x x1 off : Int} {r : Bool} : ∀ (i : Nat) (v : Value) (W W' : World), mv38S b1 o1 m1 k1 b2 o2 m2 k2 jj u x x1 off r i v W → Below W.heap.size W W' → mv38S b1 o1 m1 k1 b2 o2 m2 k2 jj u x x1 off r i v W' := by
  intro i v W W' h e
  match i with
  | 0 => exact h
  | 1 => exact h
  | 2 => exact h
  | 3 => exact h
  | 4 => exact h
  | 5 => exact h
  | 6 => exact h
  | 7 => exact h
  | 8 => exact h
  | 9 => exact h
  | 10 => exact h
  | k + 11 => exact trivial
def mv38Ok (b1 o1 m1 k1 b2 o2 m2 k2 jj : Nat) (u x x1 off : Int) (r : Bool) (Q : Exit → Act → World → Prop) (a : Act) (W : World) (ix : Nat) (o : Oper) : Prop :=
  (∀ j b, o.guard = some (j, b) → a.eval (.tmp (mv38D j)) = .bool b) ∧ o.wp Try.prog a W (fun a'' W' => ∃ v, a'' = a.put o.dst v ∧ mv38S b1 o1 m1 k1 b2 o2 m2 k2 jj u x x1 off r ix v W' ∧ Below W.heap.size W W') Q
section
variable {b1 o1 m1 k1 b2 o2 m2 k2 jj : Nat} {u x x1 off : Int} {r : Bool} {Q : Exit → Act → World → Prop} {a : Act} {V W : World} {o : Oper}
set_option maxHeartbeats 1000000 in
theorem mv38_op0 (o20 : a.eval (.tmp 20) = .slice (some ⟨b2, o2, none⟩) m2 k2) (ho : mv38Reg[0]? = some o) : mv38Ok b1 o1 m1 k1 b2 o2 m2 k2 jj u x x1 off r Q a W 0 o := by
  have hop := op_at ho (·.op) (x := Op.move (Operand.tmp 20)) (by kernel_rfl)
  have hgd := op_at ho (·.guard) (x := none) (by kernel_rfl)
  refine ⟨fun j b h => (by rw [hgd] at h; cases h), ?_⟩
  exact specs_value (R := fun v W => mv38S b1 o1 m1 k1 b2 o2 m2 k2 jj u x x1 off r 0 v W) (v := .slice (some ⟨b2, o2, none⟩) m2 k2) (by simp [execOp, hop, go_sem, ev o20]) rfl (Ext.refl W)
set_option maxHeartbeats 1000000 in
theorem mv38_op1 (o32 : a.eval (.tmp 32) = .int .i64 (jj : Int)) (ho : mv38Reg[1]? = some o) : mv38Ok b1 o1 m1 k1 b2 o2 m2 k2 jj u x x1 off r Q a W 1 o := by
  have hop := op_at ho (·.op) (x := Op.move (Operand.tmp 32)) (by kernel_rfl)
  have hgd := op_at ho (·.guard) (x := none) (by kernel_rfl)
  refine ⟨fun j b h => (by rw [hgd] at h; cases h), ?_⟩
  exact specs_value (R := fun v W => mv38S b1 o1 m1 k1 b2 o2 m2 k2 jj u x x1 off r 1 v W) (v := .int .i64 (jj : Int)) (by simp [execOp, hop, go_sem, ev o32]) rfl (Ext.refl W)
set_option maxHeartbeats 1000000 in
theorem mv38_op2 (hq : jj < m2) (haft : ∀ j, (o.after.any fun e => decide (e.on = j) && Region.binds .any e) = true → mv38S b1 o1 m1 k1 b2 o2 m2 k2 jj u x x1 off r j (a.eval (.tmp (mv38D j))) W) (ho : mv38Reg[2]? = some o) : mv38Ok b1 o1 m1 k1 b2 o2 m2 k2 jj u x x1 off r Q a W 2 o := by
  have hop := op_at ho (·.op) (x := Op.indexAddr 34 (Operand.tmp 298) (Operand.tmp 299)) (by kernel_rfl)
  have hgd := op_at ho (·.guard) (x := none) (by kernel_rfl)
  have e0 : a.eval (.tmp 298) = .slice (some ⟨b2, o2, none⟩) m2 k2 := haft 0 (op_at ho (fun o => o.after.any fun e => decide (e.on = 0) && Region.binds .any e) (x := true) (by kernel_rfl))
  have e1 : a.eval (.tmp 299) = .int .i64 (jj : Int) := haft 1 (op_at ho (fun o => o.after.any fun e => decide (e.on = 1) && Region.binds .any e) (x := true) (by kernel_rfl))
  refine ⟨fun j b h => (by rw [hgd] at h; cases h), ?_⟩
  have hqz : (jj : Int) < (m2 : Int) := by omega
  exact specs_value (R := fun v W => mv38S b1 o1 m1 k1 b2 o2 m2 k2 jj u x x1 off r 2 v W) (v := .pointer (some ⟨b2, o2 + jj, none⟩)) (by simp [execOp, hop, go_sem, ev e0, ev e1, hqz]) rfl (Ext.refl W)
set_option maxHeartbeats 1000000 in
theorem mv38_op3 (c0 : ∀ W, Ext V W → W.cell? ⟨b2, o2 + jj, none⟩ = some (.int .i64 u)) (hB : Ext V W) (haft : ∀ j, (o.after.any fun e => decide (e.on = j) && Region.binds .any e) = true → mv38S b1 o1 m1 k1 b2 o2 m2 k2 jj u x x1 off r j (a.eval (.tmp (mv38D j))) W) (ho : mv38Reg[3]? = some o) : mv38Ok b1 o1 m1 k1 b2 o2 m2 k2 jj u x x1 off r Q a W 3 o := by
  have hop := op_at ho (·.op) (x := Op.load 2 (Operand.tmp 300)) (by kernel_rfl)
  have hgd := op_at ho (·.guard) (x := none) (by kernel_rfl)
  have e2 : a.eval (.tmp 300) = .pointer (some ⟨b2, o2 + jj, none⟩) := haft 2 (op_at ho (fun o => o.after.any fun e => decide (e.on = 2) && Region.binds .any e) (x := true) (by kernel_rfl))
  refine ⟨fun j b h => (by rw [hgd] at h; cases h), ?_⟩
  have c0' := c0 W hB
  exact specs_value (R := fun v W => mv38S b1 o1 m1 k1 b2 o2 m2 k2 jj u x x1 off r 3 v W) (v := .int .i64 u) (by simp [execOp, hop, go_sem, ev e2, c0']) rfl (Ext.refl W)
set_option maxHeartbeats 1000000 in
theorem mv38_op4 (o18 : a.eval (.tmp 18) = .slice (some ⟨b1, o1, none⟩) m1 k1) (ho : mv38Reg[4]? = some o) : mv38Ok b1 o1 m1 k1 b2 o2 m2 k2 jj u x x1 off r Q a W 4 o := by
  have hop := op_at ho (·.op) (x := Op.move (Operand.tmp 18)) (by kernel_rfl)
  have hgd := op_at ho (·.guard) (x := none) (by kernel_rfl)
  refine ⟨fun j b h => (by rw [hgd] at h; cases h), ?_⟩
  exact specs_value (R := fun v W => mv38S b1 o1 m1 k1 b2 o2 m2 k2 jj u x x1 off r 4 v W) (v := .slice (some ⟨b1, o1, none⟩) m1 k1) (by simp [execOp, hop, go_sem, ev o18]) rfl (Ext.refl W)
set_option maxHeartbeats 1000000 in
theorem mv38_op5 (o32 : a.eval (.tmp 32) = .int .i64 (jj : Int)) (ho : mv38Reg[5]? = some o) : mv38Ok b1 o1 m1 k1 b2 o2 m2 k2 jj u x x1 off r Q a W 5 o := by
  have hop := op_at ho (·.op) (x := Op.move (Operand.tmp 32)) (by kernel_rfl)
  have hgd := op_at ho (·.guard) (x := none) (by kernel_rfl)
  refine ⟨fun j b h => (by rw [hgd] at h; cases h), ?_⟩
  exact specs_value (R := fun v W => mv38S b1 o1 m1 k1 b2 o2 m2 k2 jj u x x1 off r 5 v W) (v := .int .i64 (jj : Int)) (by simp [execOp, hop, go_sem, ev o32]) rfl (Ext.refl W)
set_option maxHeartbeats 1000000 in
theorem mv38_op6 (hj : jj < m1) (haft : ∀ j, (o.after.any fun e => decide (e.on = j) && Region.binds .any e) = true → mv38S b1 o1 m1 k1 b2 o2 m2 k2 jj u x x1 off r j (a.eval (.tmp (mv38D j))) W) (ho : mv38Reg[6]? = some o) : mv38Ok b1 o1 m1 k1 b2 o2 m2 k2 jj u x x1 off r Q a W 6 o := by
  have hop := op_at ho (·.op) (x := Op.indexAddr 34 (Operand.tmp 302) (Operand.tmp 303)) (by kernel_rfl)
  have hgd := op_at ho (·.guard) (x := none) (by kernel_rfl)
  have e4 : a.eval (.tmp 302) = .slice (some ⟨b1, o1, none⟩) m1 k1 := haft 4 (op_at ho (fun o => o.after.any fun e => decide (e.on = 4) && Region.binds .any e) (x := true) (by kernel_rfl))
  have e5 : a.eval (.tmp 303) = .int .i64 (jj : Int) := haft 5 (op_at ho (fun o => o.after.any fun e => decide (e.on = 5) && Region.binds .any e) (x := true) (by kernel_rfl))
  refine ⟨fun j b h => (by rw [hgd] at h; cases h), ?_⟩
  have hjz : (jj : Int) < (m1 : Int) := by omega
  exact specs_value (R := fun v W => mv38S b1 o1 m1 k1 b2 o2 m2 k2 jj u x x1 off r 6 v W) (v := .pointer (some ⟨b1, o1 + jj, none⟩)) (by simp [execOp, hop, go_sem, ev e4, ev e5, hjz]) rfl (Ext.refl W)
set_option maxHeartbeats 1000000 in
theorem mv38_op7 (c1 : ∀ W, Ext V W → W.cell? ⟨b1, o1 + jj, none⟩ = some (.int .i64 x)) (hB : Ext V W) (haft : ∀ j, (o.after.any fun e => decide (e.on = j) && Region.binds .any e) = true → mv38S b1 o1 m1 k1 b2 o2 m2 k2 jj u x x1 off r j (a.eval (.tmp (mv38D j))) W) (ho : mv38Reg[7]? = some o) : mv38Ok b1 o1 m1 k1 b2 o2 m2 k2 jj u x x1 off r Q a W 7 o := by
  have hop := op_at ho (·.op) (x := Op.load 2 (Operand.tmp 304)) (by kernel_rfl)
  have hgd := op_at ho (·.guard) (x := none) (by kernel_rfl)
  have e6 : a.eval (.tmp 304) = .pointer (some ⟨b1, o1 + jj, none⟩) := haft 6 (op_at ho (fun o => o.after.any fun e => decide (e.on = 6) && Region.binds .any e) (x := true) (by kernel_rfl))
  refine ⟨fun j b h => (by rw [hgd] at h; cases h), ?_⟩
  have c1' := c1 W hB
  exact specs_value (R := fun v W => mv38S b1 o1 m1 k1 b2 o2 m2 k2 jj u x x1 off r 7 v W) (v := .int .i64 x) (by simp [execOp, hop, go_sem, ev e6, c1']) rfl (Ext.refl W)
set_option maxHeartbeats 1000000 in
theorem mv38_op8 (o7 : a.eval (.tmp 7) = .int .i64 off) (ho : mv38Reg[8]? = some o) : mv38Ok b1 o1 m1 k1 b2 o2 m2 k2 jj u x x1 off r Q a W 8 o := by
  have hop := op_at ho (·.op) (x := Op.move (Operand.tmp 7)) (by kernel_rfl)
  have hgd := op_at ho (·.guard) (x := none) (by kernel_rfl)
  refine ⟨fun j b h => (by rw [hgd] at h; cases h), ?_⟩
  exact specs_value (R := fun v W => mv38S b1 o1 m1 k1 b2 o2 m2 k2 jj u x x1 off r 8 v W) (v := .int .i64 off) (by simp [execOp, hop, go_sem, ev o7]) rfl (Ext.refl W)
set_option maxHeartbeats 1000000 in
theorem mv38_op9 (w3 : IntKind.i64.wrap (x + off) = x1) (haft : ∀ j, (o.after.any fun e => decide (e.on = j) && Region.binds .any e) = true → mv38S b1 o1 m1 k1 b2 o2 m2 k2 jj u x x1 off r j (a.eval (.tmp (mv38D j))) W) (ho : mv38Reg[9]? = some o) : mv38Ok b1 o1 m1 k1 b2 o2 m2 k2 jj u x x1 off r Q a W 9 o := by
  have hop := op_at ho (·.op) (x := Op.binOp BinOp.add 2 (Operand.tmp 305) (Operand.tmp 306) 2) (by kernel_rfl)
  have hgd := op_at ho (·.guard) (x := none) (by kernel_rfl)
  have e7 : a.eval (.tmp 305) = .int .i64 x := haft 7 (op_at ho (fun o => o.after.any fun e => decide (e.on = 7) && Region.binds .any e) (x := true) (by kernel_rfl))
  have e8 : a.eval (.tmp 306) = .int .i64 off := haft 8 (op_at ho (fun o => o.after.any fun e => decide (e.on = 8) && Region.binds .any e) (x := true) (by kernel_rfl))
  refine ⟨fun j b h => (by rw [hgd] at h; cases h), ?_⟩
  exact specs_value (R := fun v W => mv38S b1 o1 m1 k1 b2 o2 m2 k2 jj u x x1 off r 9 v W) (v := .int .i64 x1) (by simp [execOp, hop, go_sem, ev e7, ev e8, w3]) rfl (Ext.refl W)
set_option maxHeartbeats 1000000 in
theorem mv38_op10 (hr : (u != x1) = r) (haft : ∀ j, (o.after.any fun e => decide (e.on = j) && Region.binds .any e) = true → mv38S b1 o1 m1 k1 b2 o2 m2 k2 jj u x x1 off r j (a.eval (.tmp (mv38D j))) W) (ho : mv38Reg[10]? = some o) : mv38Ok b1 o1 m1 k1 b2 o2 m2 k2 jj u x x1 off r Q a W 10 o := by
  have hop := op_at ho (·.op) (x := Op.binOp BinOp.neq 2 (Operand.tmp 301) (Operand.tmp 307) 2) (by kernel_rfl)
  have hgd := op_at ho (·.guard) (x := none) (by kernel_rfl)
  have e3 : a.eval (.tmp 301) = .int .i64 u := haft 3 (op_at ho (fun o => o.after.any fun e => decide (e.on = 3) && Region.binds .any e) (x := true) (by kernel_rfl))
  have e9 : a.eval (.tmp 307) = .int .i64 x1 := haft 9 (op_at ho (fun o => o.after.any fun e => decide (e.on = 9) && Region.binds .any e) (x := true) (by kernel_rfl))
  refine ⟨fun j b h => (by rw [hgd] at h; cases h), ?_⟩
  exact specs_value (R := fun v W => mv38S b1 o1 m1 k1 b2 o2 m2 k2 jj u x x1 off r 10 v W) (v := .bool r) (by simp [execOp, hop, go_sem, ev e3, ev e9, hr]) rfl (Ext.refl W)
set_option maxRecDepth 100000 in
set_option maxHeartbeats 4000000 in
/-- Region 38 of function 12. -/
theorem mv38_wp {id : Nat} (hlen : a.tmps.size = 310) (o7 : a.eval (.tmp 7) = .int .i64 off) (o18 : a.eval (.tmp 18) = .slice (some ⟨b1, o1, none⟩) m1 k1) (o20 : a.eval (.tmp 20) = .slice (some ⟨b2, o2, none⟩) m2 k2) (o32 : a.eval (.tmp 32) = .int .i64 (jj : Int)) (hq : jj < m2) (c0 : ∀ W, Ext V W → W.cell? ⟨b2, o2 + jj, none⟩ = some (.int .i64 u)) (hj : jj < m1) (c1 : ∀ W, Ext V W → W.cell? ⟨b1, o1 + jj, none⟩ = some (.int .i64 x)) (w3 : IntKind.i64.wrap (x + off) = x1) (hr : (u != x1) = r) (K : (∀ W, Ext V W → wpList Try.prog mv38Reg Q (mv38Reg.toList.drop 11) (puts a [(298, .slice (some ⟨b2, o2, none⟩) m2 k2), (299, .int .i64 (jj : Int)), (300, .pointer (some ⟨b2, o2 + jj, none⟩)), (301, .int .i64 u), (302, .slice (some ⟨b1, o1, none⟩) m1 k1), (303, .int .i64 (jj : Int)), (304, .pointer (some ⟨b1, o1 + jj, none⟩)), (305, .int .i64 x), (306, .int .i64 off), (307, .int .i64 x1), (308, .bool r)]) W)) : (Code.region id mv38Reg true).wp Try.prog Q a V := by
  refine wp_region_specs_free (ops := mv38Reg) 11 (mv38S b1 o1 m1 k1 b2 o2 m2 k2 jj u x x1 off r) (Ext V) (by kernel_rfl) (by rw [hlen]; kernel_rfl) (by kernel_rfl) ⟨rfl, rfl, rfl, Nat.le_refl _, fun _ _ => rfl⟩ (fun _ _ h e => h.trans e) mv38S_ext mv38D (by kernel_rfl) ?_ ?_
  · intro i o hi ho a' W hB hsz hold haft
    match i, hi with
    | 0, _ => exact mv38_op0 ((hold 20 (by kernel_rfl)).trans o20) ho
    | 1, _ => exact mv38_op1 ((hold 32 (by kernel_rfl)).trans o32) ho
    | 2, _ => exact mv38_op2 hq haft ho
    | 3, _ => exact mv38_op3 c0 hB haft ho
    | 4, _ => exact mv38_op4 ((hold 18 (by kernel_rfl)).trans o18) ho
    | 5, _ => exact mv38_op5 ((hold 32 (by kernel_rfl)).trans o32) ho
    | 6, _ => exact mv38_op6 hj haft ho
    | 7, _ => exact mv38_op7 c1 hB haft ho
    | 8, _ => exact mv38_op8 ((hold 7 (by kernel_rfl)).trans o7) ho
    | 9, _ => exact mv38_op9 w3 haft ho
    | 10, _ => exact mv38_op10 hr haft ho
    | m + 11, h => exact absurd h (by omega)
  · intro a1 W hB hsz hdf hold hS
    have hall : ∀ z, z ∈ ([(298, .slice (some ⟨b2, o2, none⟩) m2 k2), (299, .int .i64 (jj : Int)), (300, .pointer (some ⟨b2, o2 + jj, none⟩)), (301, .int .i64 u), (302, .slice (some ⟨b1, o1, none⟩) m1 k1), (303, .int .i64 (jj : Int)), (304, .pointer (some ⟨b1, o1 + jj, none⟩)), (305, .int .i64 x), (306, .int .i64 off), (307, .int .i64 x1), (308, .bool r)] : List (Tmp × Value)) → z.1 < a.tmps.size ∧ a1.eval (.tmp z.1) = z.2 := by
      intro z hz
      rw [hlen]
      simp only [List.mem_cons, List.not_mem_nil, or_false] at hz
      rcases hz with rfl | rfl | rfl | rfl | rfl | rfl | rfl | rfl | rfl | rfl | rfl
      · exact ⟨(show (298 : Nat) < 310 by omega), hS 0 (by omega)⟩
      · exact ⟨(show (299 : Nat) < 310 by omega), hS 1 (by omega)⟩
      · exact ⟨(show (300 : Nat) < 310 by omega), hS 2 (by omega)⟩
      · exact ⟨(show (301 : Nat) < 310 by omega), hS 3 (by omega)⟩
      · exact ⟨(show (302 : Nat) < 310 by omega), hS 4 (by omega)⟩
      · exact ⟨(show (303 : Nat) < 310 by omega), hS 5 (by omega)⟩
      · exact ⟨(show (304 : Nat) < 310 by omega), hS 6 (by omega)⟩
      · exact ⟨(show (305 : Nat) < 310 by omega), hS 7 (by omega)⟩
      · exact ⟨(show (306 : Nat) < 310 by omega), hS 8 (by omega)⟩
      · exact ⟨(show (307 : Nat) < 310 by omega), hS 9 (by omega)⟩
      · exact ⟨(show (308 : Nat) < 310 by omega), hS 10 (by omega)⟩
    have ha := act_puts hsz hdf hall (fun t ht => hold t (all_ne_of (l := [(298, .slice (some ⟨b2, o2, none⟩) m2 k2), (299, .int .i64 (jj : Int)), (300, .pointer (some ⟨b2, o2 + jj, none⟩)), (301, .int .i64 u), (302, .slice (some ⟨b1, o1, none⟩) m1 k1), (303, .int .i64 (jj : Int)), (304, .pointer (some ⟨b1, o1 + jj, none⟩)), (305, .int .i64 x), (306, .int .i64 off), (307, .int .i64 x1), (308, .bool r)]) (by kernel_rfl) ht))
    rw [ha]
    exact K W  hB 
end
end Go.Proofs.Ytlaakmgdbhabfaa

/- CombMoved: its regions that append to lists of its own. -/
namespace Go.Proofs.Ytlaakmgdbhabfaa
open Go.RowKit Go.Shelf
attribute [local irreducible] bitCells fitCells Z94 fitOf

theorem info75m : (Try.prog.info? 75).map (fun i => (i.zero, i.size, i.bytes)) = some (some (.agg #[.int .i64 0, .int .i64 0]), 2, 16) := by kernel_rfl
theorem u23m : Try.prog.underlying 23 = some (.slice 75) := by kernel_rfl
theorem run_build23 (w : World) (x y : Int) : (Instr.buildSlice 23 1 #[(0, .agg #[.int .i64 x, .int .i64 y])]).run Try.prog w = .ok (.slice (some ⟨w.heap.size, 0, none⟩) 1 1) (w.alloc (.cells #[.int .i64 x, .int .i64 y] 75)) := by
  have hf : Try.prog.builtSlice 75 1 [(0, .agg #[.int .i64 x, .int .i64 y])] = some #[.int .i64 x, .int .i64 y] := by kernel_rfl
  unfold Program.builtSlice at hf
  obtain ⟨i, hi, hz⟩ := Option.map_eq_some_iff.1 info75m
  simp only [Prod.mk.injEq] at hz
  simp only [hi, hz.1] at hf
  rw [if_neg (by simp [hz.2.1])] at hf
  exact run_buildSlice (P := Try.prog) w 23 75 1 #[(0, .agg #[.int .i64 x, .int .i64 y])] #[.int .i64 x, .int .i64 y] i _ u23m hi hz.1 (by simp [hz.2.1]) (by simp [hz.2.1]) hf
theorem build23_op {a : Act} {W : World} {o : Oper} {t : Tmp} {a1 b1 : Int} (hop : o.op = .buildSlice 23 1 #[(0, .tmp t)]) (eR : a.eval (.tmp t) = .agg #[.int .i64 a1, .int .i64 b1]) :
    (execOp a.eval o).run Try.prog W = .ok (.value (.slice (some ⟨W.heap.size, 0, none⟩) 1 1)) (W.alloc (.cells #[.int .i64 a1, .int .i64 b1] 75)) := by
  have h := run_build23 W a1 b1
  simp only [execOp, hop, List.map_toArray, List.map_cons, List.map_nil, eR, Sem.run_bind, h]
  rfl
theorem wpList_val {P : Program} {ops : Array Oper} {Q : Exit → Act → World → Prop} {rest : List Oper} {o : Oper} {a : Act} {w w' : World} {v : Value} (hgd : o.guard = none) (hr : (execOp a.eval o).run P w = .ok (.value v) w')
    (h : wpList P ops Q rest (a.put o.dst v) w') : wpList P ops Q (o :: rest) a w := by
  simp only [wpList]
  rw [if_pos (by simp [Region.wanted, hgd])]
  left
  unfold Oper.wp
  rw [hr]
  exact h
theorem own_block_ge {W : World} {B : Nat} {e : TypeId} {size n : Nat} {v : Value} {xs : List Value} (h : W.ownsRow B e size v n xs) : ∀ r, v.ownBlock = some r → B ≤ r := by
  intro r hr
  rcases h.2 with ⟨rfl, _⟩ | ⟨g, cap, cur, rfl, hb, _⟩
  · cases hr
  · cases hr
    exact hb

/-- The slots of region 9 of function 12. -/
def mv9D (i : Nat) : Tmp := if i = 0 then 74 else if i = 1 then 75 else if i = 2 then 76 else if i = 3 then 77 else if i = 4 then 78 else if i = 5 then 79 else if i = 6 then 80 else if i = 7 then 81 else if i = 8 then 82 else if i = 9 then 83 else if i = 10 then 84 else 85
/-- What each operation yields. -/
def mv9S (px pm : Nat) (vv : Value) (am bm off ra rb : Int) (ix : Nat) (v : Value) (W : World) : Prop :=
  match ix with
  | 0 => v = .pointer (some ⟨px, 1, none⟩)
  | 1 => v = vv
  | 2 => v = .pointer (some ⟨pm, 0, none⟩)
  | 3 => v = .int .i64 am
  | 4 => v = .int .i64 off
  | 5 => v = .int .i64 ra
  | 6 => v = .pointer (some ⟨pm, 1, none⟩)
  | 7 => v = .int .i64 bm
  | 8 => v = .int .i64 off
  | 9 => v = .int .i64 rb
  | 10 => v = .agg #[.int .i64 ra, .int .i64 rb]
  | 11 => ∃ g, v = .slice (some ⟨g, 0, none⟩) 1 1 ∧ W.heap[g]? = some (.cells #[.int .i64 ra, .int .i64 rb] 75 (0, 0))
  | _ => True
noncomputable def mv9Reg : Array Oper := (Try.f12.body.bind (regionOf · 9)).getD #[]
theorem mv9S_ext {px pm : Nat} {vv : Value} {am bm off ra rb : Int} : ∀ (i : Nat) (v : Value) (W W' : World), mv9S px pm vv am bm off ra rb i v W → Below W.heap.size W W' → mv9S px pm vv am bm off ra rb i v W' := by
  intro i v W W' h e
  match i with
  | 0 => exact h
  | 1 => exact h
  | 2 => exact h
  | 3 => exact h
  | 4 => exact h
  | 5 => exact h
  | 6 => exact h
  | 7 => exact h
  | 8 => exact h
  | 9 => exact h
  | 10 => exact h
  | 11 => (obtain ⟨h1, h2, h3⟩ := h; exact ⟨h1, h2, row_ext h3 e⟩)
  | k + 12 => exact trivial
def mv9Ok (px pm : Nat) (vv : Value) (am bm off ra rb : Int) (Q : Exit → Act → World → Prop) (a : Act) (W : World) (ix : Nat) (o : Oper) : Prop :=
  (∀ j b, o.guard = some (j, b) → a.eval (.tmp (mv9D j)) = .bool b) ∧ o.wp Try.prog a W (fun a'' W' => ∃ v, a'' = a.put o.dst v ∧ mv9S px pm vv am bm off ra rb ix v W' ∧ Below W.heap.size W W') Q
section
variable {px pm : Nat} {vv : Value} {am bm off ra rb : Int} {Q : Exit → Act → World → Prop} {a : Act} {V W : World} {o : Oper}
set_option maxHeartbeats 1000000 in
theorem mv9_op0 (o9 : a.eval (.tmp 9) = .pointer (some ⟨px, 0, none⟩)) (ho : mv9Reg[0]? = some o) : mv9Ok px pm vv am bm off ra rb Q a W 0 o := by
  have hop := op_at ho (·.op) (x := Op.fieldAddr 25 (Operand.tmp 9) 1) (by kernel_rfl)
  have hgd := op_at ho (·.guard) (x := none) (by kernel_rfl)
  refine ⟨fun j b h => (by rw [hgd] at h; cases h), ?_⟩
  exact specs_value (R := fun v W => mv9S px pm vv am bm off ra rb 0 v W) (v := .pointer (some ⟨px, 1, none⟩)) (by simp [execOp, hop, go_sem, ev o9]) rfl (Ext.refl W)
set_option maxHeartbeats 1000000 in
theorem mv9_op1 (qv : ∀ W, Ext V W → W.cell? ⟨px, 1, none⟩ = some vv) (hB : Ext V W) (haft : ∀ j, (o.after.any fun e => decide (e.on = j) && Region.binds .any e) = true → mv9S px pm vv am bm off ra rb j (a.eval (.tmp (mv9D j))) W) (ho : mv9Reg[1]? = some o) : mv9Ok px pm vv am bm off ra rb Q a W 1 o := by
  have hop := op_at ho (·.op) (x := Op.load 23 (Operand.tmp 74)) (by kernel_rfl)
  have hgd := op_at ho (·.guard) (x := none) (by kernel_rfl)
  have e0 : a.eval (.tmp 74) = .pointer (some ⟨px, 1, none⟩) := haft 0 (op_at ho (fun o => o.after.any fun e => decide (e.on = 0) && Region.binds .any e) (x := true) (by kernel_rfl))
  refine ⟨fun j b h => (by rw [hgd] at h; cases h), ?_⟩
  have qv' := qv W hB
  exact specs_value (R := fun v W => mv9S px pm vv am bm off ra rb 1 v W) (v := vv) (by simp [execOp, hop, go_sem, ev e0, qv']) rfl (Ext.refl W)
set_option maxHeartbeats 1000000 in
theorem mv9_op2 (o12 : a.eval (.tmp 12) = .pointer (some ⟨pm, 0, none⟩)) (ho : mv9Reg[2]? = some o) : mv9Ok px pm vv am bm off ra rb Q a W 2 o := by
  have hop := op_at ho (·.op) (x := Op.fieldAddr 75 (Operand.tmp 12) 0) (by kernel_rfl)
  have hgd := op_at ho (·.guard) (x := none) (by kernel_rfl)
  refine ⟨fun j b h => (by rw [hgd] at h; cases h), ?_⟩
  exact specs_value (R := fun v W => mv9S px pm vv am bm off ra rb 2 v W) (v := .pointer (some ⟨pm, 0, none⟩)) (by simp [execOp, hop, go_sem, ev o12]) rfl (Ext.refl W)
set_option maxHeartbeats 1000000 in
theorem mv9_op3 (c0 : ∀ W, Ext V W → W.cell? ⟨pm, 0, none⟩ = some (.int .i64 am)) (hB : Ext V W) (haft : ∀ j, (o.after.any fun e => decide (e.on = j) && Region.binds .any e) = true → mv9S px pm vv am bm off ra rb j (a.eval (.tmp (mv9D j))) W) (ho : mv9Reg[3]? = some o) : mv9Ok px pm vv am bm off ra rb Q a W 3 o := by
  have hop := op_at ho (·.op) (x := Op.load 2 (Operand.tmp 76)) (by kernel_rfl)
  have hgd := op_at ho (·.guard) (x := none) (by kernel_rfl)
  have e2 : a.eval (.tmp 76) = .pointer (some ⟨pm, 0, none⟩) := haft 2 (op_at ho (fun o => o.after.any fun e => decide (e.on = 2) && Region.binds .any e) (x := true) (by kernel_rfl))
  refine ⟨fun j b h => (by rw [hgd] at h; cases h), ?_⟩
  have c0' := c0 W hB
  exact specs_value (R := fun v W => mv9S px pm vv am bm off ra rb 3 v W) (v := .int .i64 am) (by simp [execOp, hop, go_sem, ev e2, c0']) rfl (Ext.refl W)
set_option maxHeartbeats 1000000 in
theorem mv9_op4 (o7 : a.eval (.tmp 7) = .int .i64 off) (ho : mv9Reg[4]? = some o) : mv9Ok px pm vv am bm off ra rb Q a W 4 o := by
  have hop := op_at ho (·.op) (x := Op.move (Operand.tmp 7)) (by kernel_rfl)
  have hgd := op_at ho (·.guard) (x := none) (by kernel_rfl)
  refine ⟨fun j b h => (by rw [hgd] at h; cases h), ?_⟩
  exact specs_value (R := fun v W => mv9S px pm vv am bm off ra rb 4 v W) (v := .int .i64 off) (by simp [execOp, hop, go_sem, ev o7]) rfl (Ext.refl W)
set_option maxHeartbeats 1000000 in
theorem mv9_op5 (w1 : IntKind.i64.wrap (am + off) = ra) (haft : ∀ j, (o.after.any fun e => decide (e.on = j) && Region.binds .any e) = true → mv9S px pm vv am bm off ra rb j (a.eval (.tmp (mv9D j))) W) (ho : mv9Reg[5]? = some o) : mv9Ok px pm vv am bm off ra rb Q a W 5 o := by
  have hop := op_at ho (·.op) (x := Op.binOp BinOp.add 2 (Operand.tmp 77) (Operand.tmp 78) 2) (by kernel_rfl)
  have hgd := op_at ho (·.guard) (x := none) (by kernel_rfl)
  have e3 : a.eval (.tmp 77) = .int .i64 am := haft 3 (op_at ho (fun o => o.after.any fun e => decide (e.on = 3) && Region.binds .any e) (x := true) (by kernel_rfl))
  have e4 : a.eval (.tmp 78) = .int .i64 off := haft 4 (op_at ho (fun o => o.after.any fun e => decide (e.on = 4) && Region.binds .any e) (x := true) (by kernel_rfl))
  refine ⟨fun j b h => (by rw [hgd] at h; cases h), ?_⟩
  exact specs_value (R := fun v W => mv9S px pm vv am bm off ra rb 5 v W) (v := .int .i64 ra) (by simp [execOp, hop, go_sem, ev e3, ev e4, w1]) rfl (Ext.refl W)
set_option maxHeartbeats 1000000 in
theorem mv9_op6 (o12 : a.eval (.tmp 12) = .pointer (some ⟨pm, 0, none⟩)) (ho : mv9Reg[6]? = some o) : mv9Ok px pm vv am bm off ra rb Q a W 6 o := by
  have hop := op_at ho (·.op) (x := Op.fieldAddr 75 (Operand.tmp 12) 1) (by kernel_rfl)
  have hgd := op_at ho (·.guard) (x := none) (by kernel_rfl)
  refine ⟨fun j b h => (by rw [hgd] at h; cases h), ?_⟩
  exact specs_value (R := fun v W => mv9S px pm vv am bm off ra rb 6 v W) (v := .pointer (some ⟨pm, 1, none⟩)) (by simp [execOp, hop, go_sem, ev o12]) rfl (Ext.refl W)
set_option maxHeartbeats 1000000 in
theorem mv9_op7 (c1 : ∀ W, Ext V W → W.cell? ⟨pm, 1, none⟩ = some (.int .i64 bm)) (hB : Ext V W) (haft : ∀ j, (o.after.any fun e => decide (e.on = j) && Region.binds .any e) = true → mv9S px pm vv am bm off ra rb j (a.eval (.tmp (mv9D j))) W) (ho : mv9Reg[7]? = some o) : mv9Ok px pm vv am bm off ra rb Q a W 7 o := by
  have hop := op_at ho (·.op) (x := Op.load 2 (Operand.tmp 80)) (by kernel_rfl)
  have hgd := op_at ho (·.guard) (x := none) (by kernel_rfl)
  have e6 : a.eval (.tmp 80) = .pointer (some ⟨pm, 1, none⟩) := haft 6 (op_at ho (fun o => o.after.any fun e => decide (e.on = 6) && Region.binds .any e) (x := true) (by kernel_rfl))
  refine ⟨fun j b h => (by rw [hgd] at h; cases h), ?_⟩
  have c1' := c1 W hB
  exact specs_value (R := fun v W => mv9S px pm vv am bm off ra rb 7 v W) (v := .int .i64 bm) (by simp [execOp, hop, go_sem, ev e6, c1']) rfl (Ext.refl W)
set_option maxHeartbeats 1000000 in
theorem mv9_op8 (o7 : a.eval (.tmp 7) = .int .i64 off) (ho : mv9Reg[8]? = some o) : mv9Ok px pm vv am bm off ra rb Q a W 8 o := by
  have hop := op_at ho (·.op) (x := Op.move (Operand.tmp 7)) (by kernel_rfl)
  have hgd := op_at ho (·.guard) (x := none) (by kernel_rfl)
  refine ⟨fun j b h => (by rw [hgd] at h; cases h), ?_⟩
  exact specs_value (R := fun v W => mv9S px pm vv am bm off ra rb 8 v W) (v := .int .i64 off) (by simp [execOp, hop, go_sem, ev o7]) rfl (Ext.refl W)
set_option maxHeartbeats 1000000 in
theorem mv9_op9 (w2 : IntKind.i64.wrap (bm + off) = rb) (haft : ∀ j, (o.after.any fun e => decide (e.on = j) && Region.binds .any e) = true → mv9S px pm vv am bm off ra rb j (a.eval (.tmp (mv9D j))) W) (ho : mv9Reg[9]? = some o) : mv9Ok px pm vv am bm off ra rb Q a W 9 o := by
  have hop := op_at ho (·.op) (x := Op.binOp BinOp.add 2 (Operand.tmp 81) (Operand.tmp 82) 2) (by kernel_rfl)
  have hgd := op_at ho (·.guard) (x := none) (by kernel_rfl)
  have e7 : a.eval (.tmp 81) = .int .i64 bm := haft 7 (op_at ho (fun o => o.after.any fun e => decide (e.on = 7) && Region.binds .any e) (x := true) (by kernel_rfl))
  have e8 : a.eval (.tmp 82) = .int .i64 off := haft 8 (op_at ho (fun o => o.after.any fun e => decide (e.on = 8) && Region.binds .any e) (x := true) (by kernel_rfl))
  refine ⟨fun j b h => (by rw [hgd] at h; cases h), ?_⟩
  exact specs_value (R := fun v W => mv9S px pm vv am bm off ra rb 9 v W) (v := .int .i64 rb) (by simp [execOp, hop, go_sem, ev e7, ev e8, w2]) rfl (Ext.refl W)
set_option maxHeartbeats 1000000 in
theorem mv9_op10 (haft : ∀ j, (o.after.any fun e => decide (e.on = j) && Region.binds .any e) = true → mv9S px pm vv am bm off ra rb j (a.eval (.tmp (mv9D j))) W) (ho : mv9Reg[10]? = some o) : mv9Ok px pm vv am bm off ra rb Q a W 10 o := by
  have hop := op_at ho (·.op) (x := Op.call { callee := Callee.value (Operand.func 50), args := #[Operand.tmp 79, Operand.tmp 83], argTypes := #[2, 2] }) (by kernel_rfl)
  have hgd := op_at ho (·.guard) (x := none) (by kernel_rfl)
  have e5 : a.eval (.tmp 79) = .int .i64 ra := haft 5 (op_at ho (fun o => o.after.any fun e => decide (e.on = 5) && Region.binds .any e) (x := true) (by kernel_rfl))
  have e9 : a.eval (.tmp 83) = .int .i64 rb := haft 9 (op_at ho (fun o => o.after.any fun e => decide (e.on = 9) && Region.binds .any e) (x := true) (by kernel_rfl))
  refine ⟨fun j b h => (by rw [hgd] at h; cases h), ?_⟩
  refine specs_call (R := fun v W => mv9S px pm vv am bm off ra rb 10 v W) (f := 50) (args := #[.int .i64 ra, .int .i64 rb]) (by simp [execOp, hop, go_sem, ev e5, ev e9]) ((rg_any ra rb W).mono ?_)
  rintro e w' ⟨rfl, h3⟩
  exact ⟨_, rfl, rfl, h3⟩
set_option maxHeartbeats 1000000 in
theorem mv9_op11 (haft : ∀ j, (o.after.any fun e => decide (e.on = j) && Region.binds .any e) = true → mv9S px pm vv am bm off ra rb j (a.eval (.tmp (mv9D j))) W) (ho : mv9Reg[11]? = some o) : mv9Ok px pm vv am bm off ra rb Q a W 11 o := by
  have hop := op_at ho (·.op) (x := Op.buildSlice 23 1 #[(0, Operand.tmp 84)]) (by kernel_rfl)
  have hgd := op_at ho (·.guard) (x := none) (by kernel_rfl)
  have e10 : mv9S px pm vv am bm off ra rb 10 (a.eval (.tmp 84)) W := haft 10 (op_at ho (fun o => o.after.any fun e => decide (e.on = 10) && Region.binds .any e) (x := true) (by kernel_rfl))
  refine ⟨fun j b h => (by rw [hgd] at h; cases h), ?_⟩
  have eR : a.eval (.tmp 84) = .agg #[.int .i64 ra, .int .i64 rb] := e10
  exact specs_value (R := fun v W => mv9S px pm vv am bm off ra rb 11 v W) (v := .slice (some ⟨W.heap.size, 0, none⟩) 1 1) (W' := W.alloc (.cells #[.int .i64 ra, .int .i64 rb] 75)) (build23_op hop eR) ⟨_, rfl, row_last _ _ _ rfl⟩ (ext_alloc _ _)
set_option maxRecDepth 100000 in
set_option maxHeartbeats 4000000 in
/-- Region 9 of function 12. -/
theorem mv9_wp {id : Nat} (hlen : a.tmps.size = 310) (o7 : a.eval (.tmp 7) = .int .i64 off) (o9 : a.eval (.tmp 9) = .pointer (some ⟨px, 0, none⟩)) (o12 : a.eval (.tmp 12) = .pointer (some ⟨pm, 0, none⟩)) (qv : ∀ W, Ext V W → W.cell? ⟨px, 1, none⟩ = some vv) (c0 : ∀ W, Ext V W → W.cell? ⟨pm, 0, none⟩ = some (.int .i64 am)) (w1 : IntKind.i64.wrap (am + off) = ra) (c1 : ∀ W, Ext V W → W.cell? ⟨pm, 1, none⟩ = some (.int .i64 bm)) (w2 : IntKind.i64.wrap (bm + off) = rb) (K : (∀ W v10 v11, Ext V W → mv9S px pm vv am bm off ra rb 10 v10 W → mv9S px pm vv am bm off ra rb 11 v11 W → wpList Try.prog mv9Reg Q (mv9Reg.toList.drop 12) (puts a [(74, .pointer (some ⟨px, 1, none⟩)), (75, vv), (76, .pointer (some ⟨pm, 0, none⟩)), (77, .int .i64 am), (78, .int .i64 off), (79, .int .i64 ra), (80, .pointer (some ⟨pm, 1, none⟩)), (81, .int .i64 bm), (82, .int .i64 off), (83, .int .i64 rb), (84, v10), (85, v11)]) W)) : (Code.region id mv9Reg true).wp Try.prog Q a V := by
  refine wp_region_specs_sink (ops := mv9Reg) 12 (mv9S px pm vv am bm off ra rb) (Ext V) (by kernel_rfl) (by rw [hlen]; kernel_rfl) (by kernel_rfl) ⟨rfl, rfl, rfl, Nat.le_refl _, fun _ _ => rfl⟩ (fun _ _ h e => h.trans e) mv9S_ext mv9D (by kernel_rfl) ?_ ?_
  · intro i o hi ho a' W hB hsz hold haft
    match i, hi with
    | 0, _ => exact mv9_op0 ((hold 9 (by kernel_rfl)).trans o9) ho
    | 1, _ => exact mv9_op1 qv hB haft ho
    | 2, _ => exact mv9_op2 ((hold 12 (by kernel_rfl)).trans o12) ho
    | 3, _ => exact mv9_op3 c0 hB haft ho
    | 4, _ => exact mv9_op4 ((hold 7 (by kernel_rfl)).trans o7) ho
    | 5, _ => exact mv9_op5 w1 haft ho
    | 6, _ => exact mv9_op6 ((hold 12 (by kernel_rfl)).trans o12) ho
    | 7, _ => exact mv9_op7 c1 hB haft ho
    | 8, _ => exact mv9_op8 ((hold 7 (by kernel_rfl)).trans o7) ho
    | 9, _ => exact mv9_op9 w2 haft ho
    | 10, _ => exact mv9_op10 haft ho
    | 11, _ => exact mv9_op11 haft ho
    | m + 12, h => exact absurd h (by omega)
  · intro a1 W hB hsz hdf hold hS
    obtain ⟨v10, g10⟩ : ∃ v, v = a1.eval (.tmp 84) := ⟨_, rfl⟩
    obtain ⟨v11, g11⟩ : ∃ v, v = a1.eval (.tmp 85) := ⟨_, rfl⟩
    have hall : ∀ z, z ∈ ([(74, .pointer (some ⟨px, 1, none⟩)), (75, vv), (76, .pointer (some ⟨pm, 0, none⟩)), (77, .int .i64 am), (78, .int .i64 off), (79, .int .i64 ra), (80, .pointer (some ⟨pm, 1, none⟩)), (81, .int .i64 bm), (82, .int .i64 off), (83, .int .i64 rb), (84, v10), (85, v11)] : List (Tmp × Value)) → z.1 < a.tmps.size ∧ a1.eval (.tmp z.1) = z.2 := by
      intro z hz
      rw [hlen]
      simp only [List.mem_cons, List.not_mem_nil, or_false] at hz
      rcases hz with rfl | rfl | rfl | rfl | rfl | rfl | rfl | rfl | rfl | rfl | rfl | rfl
      · exact ⟨(show (74 : Nat) < 310 by omega), hS 0 (by omega)⟩
      · exact ⟨(show (75 : Nat) < 310 by omega), hS 1 (by omega)⟩
      · exact ⟨(show (76 : Nat) < 310 by omega), hS 2 (by omega)⟩
      · exact ⟨(show (77 : Nat) < 310 by omega), hS 3 (by omega)⟩
      · exact ⟨(show (78 : Nat) < 310 by omega), hS 4 (by omega)⟩
      · exact ⟨(show (79 : Nat) < 310 by omega), hS 5 (by omega)⟩
      · exact ⟨(show (80 : Nat) < 310 by omega), hS 6 (by omega)⟩
      · exact ⟨(show (81 : Nat) < 310 by omega), hS 7 (by omega)⟩
      · exact ⟨(show (82 : Nat) < 310 by omega), hS 8 (by omega)⟩
      · exact ⟨(show (83 : Nat) < 310 by omega), hS 9 (by omega)⟩
      · exact ⟨(show (84 : Nat) < 310 by omega), g10.symm⟩
      · exact ⟨(show (85 : Nat) < 310 by omega), g11.symm⟩
    have ha := act_puts hsz hdf hall (fun t ht => hold t (all_ne_of (l := [(74, .pointer (some ⟨px, 1, none⟩)), (75, vv), (76, .pointer (some ⟨pm, 0, none⟩)), (77, .int .i64 am), (78, .int .i64 off), (79, .int .i64 ra), (80, .pointer (some ⟨pm, 1, none⟩)), (81, .int .i64 bm), (82, .int .i64 off), (83, .int .i64 rb), (84, v10), (85, v11)]) (by kernel_rfl) ht))
    rw [ha]
    exact K W v10 v11 hB (by rw [g10]; exact hS 10 (by omega)) (by rw [g11]; exact hS 11 (by omega))
end

/-- The slots of region 10 of function 12. -/
def mv10D (i : Nat) : Tmp := if i = 0 then 88 else if i = 1 then 89 else if i = 2 then 90 else if i = 3 then 91 else if i = 4 then 92 else if i = 5 then 93 else if i = 6 then 94 else if i = 7 then 95 else if i = 8 then 96 else 97
/-- What each operation yields. -/
def mv10S (px pm : Nat) (vv : Value) (am bm ra rb : Int) (ix : Nat) (v : Value) (W : World) : Prop :=
  match ix with
  | 0 => v = .pointer (some ⟨px, 1, none⟩)
  | 1 => v = vv
  | 2 => v = .pointer (some ⟨pm, 1, none⟩)
  | 3 => v = .int .i64 bm
  | 4 => v = .int .i64 ra
  | 5 => v = .pointer (some ⟨pm, 0, none⟩)
  | 6 => v = .int .i64 am
  | 7 => v = .int .i64 rb
  | 8 => v = .agg #[.int .i64 ra, .int .i64 rb]
  | 9 => ∃ g, v = .slice (some ⟨g, 0, none⟩) 1 1 ∧ W.heap[g]? = some (.cells #[.int .i64 ra, .int .i64 rb] 75 (0, 0))
  | _ => True
noncomputable def mv10Reg : Array Oper := (Try.f12.body.bind (regionOf · 10)).getD #[]
theorem mv10S_ext {px pm : Nat} {vv : Value} {am bm ra rb : Int} : ∀ (i : Nat) (v : Value) (W W' : World), mv10S px pm vv am bm ra rb i v W → Below W.heap.size W W' → mv10S px pm vv am bm ra rb i v W' := by
  intro i v W W' h e
  match i with
  | 0 => exact h
  | 1 => exact h
  | 2 => exact h
  | 3 => exact h
  | 4 => exact h
  | 5 => exact h
  | 6 => exact h
  | 7 => exact h
  | 8 => exact h
  | 9 => (obtain ⟨h1, h2, h3⟩ := h; exact ⟨h1, h2, row_ext h3 e⟩)
  | k + 10 => exact trivial
def mv10Ok (px pm : Nat) (vv : Value) (am bm ra rb : Int) (Q : Exit → Act → World → Prop) (a : Act) (W : World) (ix : Nat) (o : Oper) : Prop :=
  (∀ j b, o.guard = some (j, b) → a.eval (.tmp (mv10D j)) = .bool b) ∧ o.wp Try.prog a W (fun a'' W' => ∃ v, a'' = a.put o.dst v ∧ mv10S px pm vv am bm ra rb ix v W' ∧ Below W.heap.size W W') Q
section
variable {px pm : Nat} {vv : Value} {am bm ra rb : Int} {Q : Exit → Act → World → Prop} {a : Act} {V W : World} {o : Oper}
set_option maxHeartbeats 1000000 in
theorem mv10_op0 (o10 : a.eval (.tmp 10) = .pointer (some ⟨px, 0, none⟩)) (ho : mv10Reg[0]? = some o) : mv10Ok px pm vv am bm ra rb Q a W 0 o := by
  have hop := op_at ho (·.op) (x := Op.fieldAddr 25 (Operand.tmp 10) 1) (by kernel_rfl)
  have hgd := op_at ho (·.guard) (x := none) (by kernel_rfl)
  refine ⟨fun j b h => (by rw [hgd] at h; cases h), ?_⟩
  exact specs_value (R := fun v W => mv10S px pm vv am bm ra rb 0 v W) (v := .pointer (some ⟨px, 1, none⟩)) (by simp [execOp, hop, go_sem, ev o10]) rfl (Ext.refl W)
set_option maxHeartbeats 1000000 in
theorem mv10_op1 (qv : ∀ W, Ext V W → W.cell? ⟨px, 1, none⟩ = some vv) (hB : Ext V W) (haft : ∀ j, (o.after.any fun e => decide (e.on = j) && Region.binds .any e) = true → mv10S px pm vv am bm ra rb j (a.eval (.tmp (mv10D j))) W) (ho : mv10Reg[1]? = some o) : mv10Ok px pm vv am bm ra rb Q a W 1 o := by
  have hop := op_at ho (·.op) (x := Op.load 23 (Operand.tmp 88)) (by kernel_rfl)
  have hgd := op_at ho (·.guard) (x := none) (by kernel_rfl)
  have e0 : a.eval (.tmp 88) = .pointer (some ⟨px, 1, none⟩) := haft 0 (op_at ho (fun o => o.after.any fun e => decide (e.on = 0) && Region.binds .any e) (x := true) (by kernel_rfl))
  refine ⟨fun j b h => (by rw [hgd] at h; cases h), ?_⟩
  have qv' := qv W hB
  exact specs_value (R := fun v W => mv10S px pm vv am bm ra rb 1 v W) (v := vv) (by simp [execOp, hop, go_sem, ev e0, qv']) rfl (Ext.refl W)
set_option maxHeartbeats 1000000 in
theorem mv10_op2 (o13 : a.eval (.tmp 13) = .pointer (some ⟨pm, 0, none⟩)) (ho : mv10Reg[2]? = some o) : mv10Ok px pm vv am bm ra rb Q a W 2 o := by
  have hop := op_at ho (·.op) (x := Op.fieldAddr 75 (Operand.tmp 13) 1) (by kernel_rfl)
  have hgd := op_at ho (·.guard) (x := none) (by kernel_rfl)
  refine ⟨fun j b h => (by rw [hgd] at h; cases h), ?_⟩
  exact specs_value (R := fun v W => mv10S px pm vv am bm ra rb 2 v W) (v := .pointer (some ⟨pm, 1, none⟩)) (by simp [execOp, hop, go_sem, ev o13]) rfl (Ext.refl W)
set_option maxHeartbeats 1000000 in
theorem mv10_op3 (c1 : ∀ W, Ext V W → W.cell? ⟨pm, 1, none⟩ = some (.int .i64 bm)) (hB : Ext V W) (haft : ∀ j, (o.after.any fun e => decide (e.on = j) && Region.binds .any e) = true → mv10S px pm vv am bm ra rb j (a.eval (.tmp (mv10D j))) W) (ho : mv10Reg[3]? = some o) : mv10Ok px pm vv am bm ra rb Q a W 3 o := by
  have hop := op_at ho (·.op) (x := Op.load 2 (Operand.tmp 90)) (by kernel_rfl)
  have hgd := op_at ho (·.guard) (x := none) (by kernel_rfl)
  have e2 : a.eval (.tmp 90) = .pointer (some ⟨pm, 1, none⟩) := haft 2 (op_at ho (fun o => o.after.any fun e => decide (e.on = 2) && Region.binds .any e) (x := true) (by kernel_rfl))
  refine ⟨fun j b h => (by rw [hgd] at h; cases h), ?_⟩
  have c1' := c1 W hB
  exact specs_value (R := fun v W => mv10S px pm vv am bm ra rb 3 v W) (v := .int .i64 bm) (by simp [execOp, hop, go_sem, ev e2, c1']) rfl (Ext.refl W)
set_option maxHeartbeats 1000000 in
theorem mv10_op4 (w1 : IntKind.i64.wrap (500 - bm) = ra) (haft : ∀ j, (o.after.any fun e => decide (e.on = j) && Region.binds .any e) = true → mv10S px pm vv am bm ra rb j (a.eval (.tmp (mv10D j))) W) (ho : mv10Reg[4]? = some o) : mv10Ok px pm vv am bm ra rb Q a W 4 o := by
  have hop := op_at ho (·.op) (x := Op.binOp BinOp.sub 2 (Operand.const (Value.int IntKind.i64 500)) (Operand.tmp 91) 2) (by kernel_rfl)
  have hgd := op_at ho (·.guard) (x := none) (by kernel_rfl)
  have e3 : a.eval (.tmp 91) = .int .i64 bm := haft 3 (op_at ho (fun o => o.after.any fun e => decide (e.on = 3) && Region.binds .any e) (x := true) (by kernel_rfl))
  refine ⟨fun j b h => (by rw [hgd] at h; cases h), ?_⟩
  exact specs_value (R := fun v W => mv10S px pm vv am bm ra rb 4 v W) (v := .int .i64 ra) (by simp [execOp, hop, go_sem, ev e3, w1]) rfl (Ext.refl W)
set_option maxHeartbeats 1000000 in
theorem mv10_op5 (o13 : a.eval (.tmp 13) = .pointer (some ⟨pm, 0, none⟩)) (ho : mv10Reg[5]? = some o) : mv10Ok px pm vv am bm ra rb Q a W 5 o := by
  have hop := op_at ho (·.op) (x := Op.fieldAddr 75 (Operand.tmp 13) 0) (by kernel_rfl)
  have hgd := op_at ho (·.guard) (x := none) (by kernel_rfl)
  refine ⟨fun j b h => (by rw [hgd] at h; cases h), ?_⟩
  exact specs_value (R := fun v W => mv10S px pm vv am bm ra rb 5 v W) (v := .pointer (some ⟨pm, 0, none⟩)) (by simp [execOp, hop, go_sem, ev o13]) rfl (Ext.refl W)
set_option maxHeartbeats 1000000 in
theorem mv10_op6 (c0 : ∀ W, Ext V W → W.cell? ⟨pm, 0, none⟩ = some (.int .i64 am)) (hB : Ext V W) (haft : ∀ j, (o.after.any fun e => decide (e.on = j) && Region.binds .any e) = true → mv10S px pm vv am bm ra rb j (a.eval (.tmp (mv10D j))) W) (ho : mv10Reg[6]? = some o) : mv10Ok px pm vv am bm ra rb Q a W 6 o := by
  have hop := op_at ho (·.op) (x := Op.load 2 (Operand.tmp 93)) (by kernel_rfl)
  have hgd := op_at ho (·.guard) (x := none) (by kernel_rfl)
  have e5 : a.eval (.tmp 93) = .pointer (some ⟨pm, 0, none⟩) := haft 5 (op_at ho (fun o => o.after.any fun e => decide (e.on = 5) && Region.binds .any e) (x := true) (by kernel_rfl))
  refine ⟨fun j b h => (by rw [hgd] at h; cases h), ?_⟩
  have c0' := c0 W hB
  exact specs_value (R := fun v W => mv10S px pm vv am bm ra rb 6 v W) (v := .int .i64 am) (by simp [execOp, hop, go_sem, ev e5, c0']) rfl (Ext.refl W)
set_option maxHeartbeats 1000000 in
theorem mv10_op7 (w2 : IntKind.i64.wrap (500 - am) = rb) (haft : ∀ j, (o.after.any fun e => decide (e.on = j) && Region.binds .any e) = true → mv10S px pm vv am bm ra rb j (a.eval (.tmp (mv10D j))) W) (ho : mv10Reg[7]? = some o) : mv10Ok px pm vv am bm ra rb Q a W 7 o := by
  have hop := op_at ho (·.op) (x := Op.binOp BinOp.sub 2 (Operand.const (Value.int IntKind.i64 500)) (Operand.tmp 94) 2) (by kernel_rfl)
  have hgd := op_at ho (·.guard) (x := none) (by kernel_rfl)
  have e6 : a.eval (.tmp 94) = .int .i64 am := haft 6 (op_at ho (fun o => o.after.any fun e => decide (e.on = 6) && Region.binds .any e) (x := true) (by kernel_rfl))
  refine ⟨fun j b h => (by rw [hgd] at h; cases h), ?_⟩
  exact specs_value (R := fun v W => mv10S px pm vv am bm ra rb 7 v W) (v := .int .i64 rb) (by simp [execOp, hop, go_sem, ev e6, w2]) rfl (Ext.refl W)
set_option maxHeartbeats 1000000 in
theorem mv10_op8 (haft : ∀ j, (o.after.any fun e => decide (e.on = j) && Region.binds .any e) = true → mv10S px pm vv am bm ra rb j (a.eval (.tmp (mv10D j))) W) (ho : mv10Reg[8]? = some o) : mv10Ok px pm vv am bm ra rb Q a W 8 o := by
  have hop := op_at ho (·.op) (x := Op.call { callee := Callee.value (Operand.func 50), args := #[Operand.tmp 92, Operand.tmp 95], argTypes := #[2, 2] }) (by kernel_rfl)
  have hgd := op_at ho (·.guard) (x := none) (by kernel_rfl)
  have e4 : a.eval (.tmp 92) = .int .i64 ra := haft 4 (op_at ho (fun o => o.after.any fun e => decide (e.on = 4) && Region.binds .any e) (x := true) (by kernel_rfl))
  have e7 : a.eval (.tmp 95) = .int .i64 rb := haft 7 (op_at ho (fun o => o.after.any fun e => decide (e.on = 7) && Region.binds .any e) (x := true) (by kernel_rfl))
  refine ⟨fun j b h => (by rw [hgd] at h; cases h), ?_⟩
  refine specs_call (R := fun v W => mv10S px pm vv am bm ra rb 8 v W) (f := 50) (args := #[.int .i64 ra, .int .i64 rb]) (by simp [execOp, hop, go_sem, ev e4, ev e7]) ((rg_any ra rb W).mono ?_)
  rintro e w' ⟨rfl, h3⟩
  exact ⟨_, rfl, rfl, h3⟩
set_option maxHeartbeats 1000000 in
theorem mv10_op9 (haft : ∀ j, (o.after.any fun e => decide (e.on = j) && Region.binds .any e) = true → mv10S px pm vv am bm ra rb j (a.eval (.tmp (mv10D j))) W) (ho : mv10Reg[9]? = some o) : mv10Ok px pm vv am bm ra rb Q a W 9 o := by
  have hop := op_at ho (·.op) (x := Op.buildSlice 23 1 #[(0, Operand.tmp 96)]) (by kernel_rfl)
  have hgd := op_at ho (·.guard) (x := none) (by kernel_rfl)
  have e8 : mv10S px pm vv am bm ra rb 8 (a.eval (.tmp 96)) W := haft 8 (op_at ho (fun o => o.after.any fun e => decide (e.on = 8) && Region.binds .any e) (x := true) (by kernel_rfl))
  refine ⟨fun j b h => (by rw [hgd] at h; cases h), ?_⟩
  have eR : a.eval (.tmp 96) = .agg #[.int .i64 ra, .int .i64 rb] := e8
  exact specs_value (R := fun v W => mv10S px pm vv am bm ra rb 9 v W) (v := .slice (some ⟨W.heap.size, 0, none⟩) 1 1) (W' := W.alloc (.cells #[.int .i64 ra, .int .i64 rb] 75)) (build23_op hop eR) ⟨_, rfl, row_last _ _ _ rfl⟩ (ext_alloc _ _)
set_option maxRecDepth 100000 in
set_option maxHeartbeats 4000000 in
/-- Region 10 of function 12. -/
theorem mv10_wp {id : Nat} (hlen : a.tmps.size = 310) (o10 : a.eval (.tmp 10) = .pointer (some ⟨px, 0, none⟩)) (o13 : a.eval (.tmp 13) = .pointer (some ⟨pm, 0, none⟩)) (qv : ∀ W, Ext V W → W.cell? ⟨px, 1, none⟩ = some vv) (c1 : ∀ W, Ext V W → W.cell? ⟨pm, 1, none⟩ = some (.int .i64 bm)) (w1 : IntKind.i64.wrap (500 - bm) = ra) (c0 : ∀ W, Ext V W → W.cell? ⟨pm, 0, none⟩ = some (.int .i64 am)) (w2 : IntKind.i64.wrap (500 - am) = rb) (K : (∀ W v8 v9, Ext V W → mv10S px pm vv am bm ra rb 8 v8 W → mv10S px pm vv am bm ra rb 9 v9 W → wpList Try.prog mv10Reg Q (mv10Reg.toList.drop 10) (puts a [(88, .pointer (some ⟨px, 1, none⟩)), (89, vv), (90, .pointer (some ⟨pm, 1, none⟩)), (91, .int .i64 bm), (92, .int .i64 ra), (93, .pointer (some ⟨pm, 0, none⟩)), (94, .int .i64 am), (95, .int .i64 rb), (96, v8), (97, v9)]) W)) : (Code.region id mv10Reg true).wp Try.prog Q a V := by
  refine wp_region_specs_sink (ops := mv10Reg) 10 (mv10S px pm vv am bm ra rb) (Ext V) (by kernel_rfl) (by rw [hlen]; kernel_rfl) (by kernel_rfl) ⟨rfl, rfl, rfl, Nat.le_refl _, fun _ _ => rfl⟩ (fun _ _ h e => h.trans e) mv10S_ext mv10D (by kernel_rfl) ?_ ?_
  · intro i o hi ho a' W hB hsz hold haft
    match i, hi with
    | 0, _ => exact mv10_op0 ((hold 10 (by kernel_rfl)).trans o10) ho
    | 1, _ => exact mv10_op1 qv hB haft ho
    | 2, _ => exact mv10_op2 ((hold 13 (by kernel_rfl)).trans o13) ho
    | 3, _ => exact mv10_op3 c1 hB haft ho
    | 4, _ => exact mv10_op4 w1 haft ho
    | 5, _ => exact mv10_op5 ((hold 13 (by kernel_rfl)).trans o13) ho
    | 6, _ => exact mv10_op6 c0 hB haft ho
    | 7, _ => exact mv10_op7 w2 haft ho
    | 8, _ => exact mv10_op8 haft ho
    | 9, _ => exact mv10_op9 haft ho
    | m + 10, h => exact absurd h (by omega)
  · intro a1 W hB hsz hdf hold hS
    obtain ⟨v8, g8⟩ : ∃ v, v = a1.eval (.tmp 96) := ⟨_, rfl⟩
    obtain ⟨v9, g9⟩ : ∃ v, v = a1.eval (.tmp 97) := ⟨_, rfl⟩
    have hall : ∀ z, z ∈ ([(88, .pointer (some ⟨px, 1, none⟩)), (89, vv), (90, .pointer (some ⟨pm, 1, none⟩)), (91, .int .i64 bm), (92, .int .i64 ra), (93, .pointer (some ⟨pm, 0, none⟩)), (94, .int .i64 am), (95, .int .i64 rb), (96, v8), (97, v9)] : List (Tmp × Value)) → z.1 < a.tmps.size ∧ a1.eval (.tmp z.1) = z.2 := by
      intro z hz
      rw [hlen]
      simp only [List.mem_cons, List.not_mem_nil, or_false] at hz
      rcases hz with rfl | rfl | rfl | rfl | rfl | rfl | rfl | rfl | rfl | rfl
      · exact ⟨(show (88 : Nat) < 310 by omega), hS 0 (by omega)⟩
      · exact ⟨(show (89 : Nat) < 310 by omega), hS 1 (by omega)⟩
      · exact ⟨(show (90 : Nat) < 310 by omega), hS 2 (by omega)⟩
      · exact ⟨(show (91 : Nat) < 310 by omega), hS 3 (by omega)⟩
      · exact ⟨(show (92 : Nat) < 310 by omega), hS 4 (by omega)⟩
      · exact ⟨(show (93 : Nat) < 310 by omega), hS 5 (by omega)⟩
      · exact ⟨(show (94 : Nat) < 310 by omega), hS 6 (by omega)⟩
      · exact ⟨(show (95 : Nat) < 310 by omega), hS 7 (by omega)⟩
      · exact ⟨(show (96 : Nat) < 310 by omega), g8.symm⟩
      · exact ⟨(show (97 : Nat) < 310 by omega), g9.symm⟩
    have ha := act_puts hsz hdf hall (fun t ht => hold t (all_ne_of (l := [(88, .pointer (some ⟨px, 1, none⟩)), (89, vv), (90, .pointer (some ⟨pm, 1, none⟩)), (91, .int .i64 bm), (92, .int .i64 ra), (93, .pointer (some ⟨pm, 0, none⟩)), (94, .int .i64 am), (95, .int .i64 rb), (96, v8), (97, v9)]) (by kernel_rfl) ht))
    rw [ha]
    exact K W v8 v9 hB (by rw [g8]; exact hS 8 (by omega)) (by rw [g9]; exact hS 9 (by omega))
end
end Go.Proofs.Ytlaakmgdbhabfaa

/- CombMoved: its regions that append, their ends. -/
namespace Go.Proofs.Ytlaakmgdbhabfaa
open Go.RowKit Go.Shelf
attribute [local irreducible] bitCells fitCells Z94 fitOf

set_option maxRecDepth 100000 in
set_option maxHeartbeats 2000000 in
theorem mv9_tail {a : Act} {V : World} {Q : Exit → Act → World → Prop} {B px n g2 : Nat} {vv : Value} {cs : List (Int × Int)} {d : Int × Int} {x0 y0 : Value} (h310 : a.tmps.size = 310)
    (e28 : a.eval (.tmp 75) = vv) (e30 : a.eval (.tmp 85) = .slice (some ⟨g2, 0, none⟩) 1 1) (e7 : a.eval (.tmp 9) = .pointer (some ⟨px, 0, none⟩))
    (hown : V.ownsRow B 75 2 vv n (cs.flatMap encS)) (hBV : B ≤ V.heap.size) (hnew : V.heap[g2]? = some (.cells #[.int .i64 d.1, .int .i64 d.2] 75 (0, 0)))
    (hrow : V.heap[px]? = some (.cells #[x0, y0] 25 (0, 0))) (hpx : px < B) (hn : n ≤ 5000)
    (K : ∀ g3 cap3 W, W.ownsRow B 75 2 (.slice (some ⟨g3, 0, none⟩) (n + 1) cap3) (n + 1) ((cs ++ [d]).flatMap encS) → Below px V W → (∀ k, k < V.heap.size → k ≠ px → vv.ownBlock ≠ some k → W.heap[k]? = V.heap[k]?) → (vv.ownBlock = some g3 ∨ g3 = V.heap.size) → V.heap.size ≤ W.heap.size → W.heap[px]? = some (.cells #[x0, .slice (some ⟨g3, 0, none⟩) (n + 1) cap3] 25 (0, 0)) →
      Q .normal ((a.put (some 86) (.slice (some ⟨g3, 0, none⟩) (n + 1) cap3)).put (some 87) (.pointer (some ⟨px, 1, none⟩))) W) : wpList Try.prog mv9Reg Q (mv9Reg.toList.drop 12) a V := by
  obtain ⟨o6, o7, o8, hdr, h6, h7, h8⟩ : ∃ o6 o7 o8, mv9Reg.toList.drop 12 = [o6, o7, o8] ∧ mv9Reg[12]? = some o6 ∧ mv9Reg[13]? = some o7 ∧ mv9Reg[14]? = some o8 := by
    have hs : mv9Reg.size = 15 := by kernel_rfl
    refine ⟨mv9Reg[12], mv9Reg[13], mv9Reg[14], ?_, Array.getElem?_eq_getElem _, Array.getElem?_eq_getElem _, Array.getElem?_eq_getElem _⟩
    rw [List.drop_eq_getElem_cons (by simp [hs]), List.drop_eq_getElem_cons (by simp [hs]), List.drop_eq_getElem_cons (by simp [hs]), List.drop_eq_nil_of_le (by simp [hs])]
    simp
  rw [hdr]
  obtain ⟨i0, hi0, hz0, hz1, hz2⟩ := info_parts info75m
  have e1 : (cs ++ [d]).flatMap encS = cs.flatMap encS ++ [.int .i64 d.1, .int .i64 d.2] := by rw [List.flatMap_append]; rfl
  rw [e1] at K
  refine wpList_tail (op_at h6 (·.guard) (x := none) (by kernel_rfl)) (step_append_lies V (op_at h6 (·.guard) (x := none) (by kernel_rfl)) (.tmp 75) (.tmp 85) 23 (op_at h6 (·.op) (by kernel_rfl)) B 75 i0 _ 2 16 u23m hi0 hz0 hz1 hz2 rfl (by omega) _ n (cs.flatMap encS) e28 hown ⟨g2, 0, none⟩ 1 1 [.int .i64 d.1, .int .i64 d.2] e30 rfl (World.news_of_block hnew) (by simp [Value.oneCell']) (by omega) (by unfold maxLen; omega) (by omega) hBV V.heap.size rfl ?_)
  intro g3 cap3 V3 hown3 hgr hlie _
  have hE3 : Below B V V3 := (Below.refl B V).grown hgr hBV (own_block_ge hown)
  rw [show o6.dst = some 86 from op_at h6 (·.dst) (by kernel_rfl)]
  obtain ⟨a6, ha6⟩ : ∃ a6, a.put (some 86) (.slice (some ⟨g3, 0, none⟩) (n + 1) cap3) = a6 := ⟨_, rfl⟩
  have e7b : a6.eval (.tmp 9) = .pointer (some ⟨px, 0, none⟩) := by rw [← ha6]; exact (eval_put_other (by decide)).trans e7
  have e31a : a6.eval (.tmp 86) = .slice (some ⟨g3, 0, none⟩) (n + 1) cap3 := by rw [← ha6]; exact eval_put_same (d := 86) (by rw [h310]; decide)
  have hlen6 : a6.tmps.size = 310 := by rw [← ha6]; simp [Act.put, h310]
  have K3 := K g3 cap3
  rw [ha6] at K3
  rw [ha6]
  refine wpList_val (v := .pointer (some ⟨px, 1, none⟩)) (w' := V3) (op_at h7 (·.guard) (x := none) (by kernel_rfl)) (by simp [execOp, show o7.op = .fieldAddr 25 (.tmp 9) 1 from op_at h7 (·.op) (by kernel_rfl), go_sem, ev e7b]) ?_
  rw [show o7.dst = some 87 from op_at h7 (·.dst) (by kernel_rfl)]
  obtain ⟨a7, ha7⟩ : ∃ a7, a6.put (some 87) (.pointer (some ⟨px, 1, none⟩)) = a7 := ⟨_, rfl⟩
  have e31 : a7.eval (.tmp 86) = .slice (some ⟨g3, 0, none⟩) (n + 1) cap3 := by rw [← ha7]; exact (eval_put_other (by decide)).trans e31a
  have e32 : a7.eval (.tmp 87) = .pointer (some ⟨px, 1, none⟩) := by rw [← ha7]; exact eval_put_same (d := 87) (by rw [hlen6]; decide)
  rw [ha7] at K3
  rw [ha7]
  have hrA : V3.heap[px]? = some (.cells #[x0, y0] 25 (0, 0)) := (hE3.block px hpx).trans hrow
  have fz : V3.frozen? ⟨px, 1, none⟩ = false := by simp [World.frozen?, hrA]
  have hcA : V3.cell? ⟨px, 1, none⟩ = some y0 := cell_of_row _ _ _ _ _ _ hrA
  refine wpList_skip (w' := V3.setCell ⟨px, 1, none⟩ (.slice (some ⟨g3, 0, none⟩) (n + 1) cap3)) (op_at h8 (·.guard) (x := none) (by kernel_rfl)) (by simp [execOp, show o8.op = .store 23 (.tmp 87) (.tmp 86) from op_at h8 (·.op) (by kernel_rfl), go_sem, ev e31, ev e32, fz, hcA]) ?_
  rw [show o8.dst = none from op_at h8 (·.dst) (by kernel_rfl)]
  refine K3 _ (owns_far hown3 fun k hk => ?_) (Below.setCell (hE3.mono (Nat.le_of_lt hpx)) (p := ⟨px, 1, none⟩) (Nat.le_refl _) _) (fun k hk hne hno => ?_) hlie (by simpa [World.setCell] using hgr.size) ?_
  · simp only [World.setCell, Array.getElem?_modify]
    rw [if_neg (by omega)]
  · simp only [World.setCell, Array.getElem?_modify]
    rw [if_neg (by omega)]
    exact hgr.block k hk (fun e => hno e.symm)
  · simp [World.setCell, Array.getElem?_modify, hrA]

set_option maxRecDepth 100000 in
set_option maxHeartbeats 2000000 in
theorem mv10_tail {a : Act} {V : World} {Q : Exit → Act → World → Prop} {B px n g2 : Nat} {vv : Value} {cs : List (Int × Int)} {d : Int × Int} {x0 y0 : Value} (h310 : a.tmps.size = 310)
    (e28 : a.eval (.tmp 89) = vv) (e30 : a.eval (.tmp 97) = .slice (some ⟨g2, 0, none⟩) 1 1) (e7 : a.eval (.tmp 10) = .pointer (some ⟨px, 0, none⟩))
    (hown : V.ownsRow B 75 2 vv n (cs.flatMap encS)) (hBV : B ≤ V.heap.size) (hnew : V.heap[g2]? = some (.cells #[.int .i64 d.1, .int .i64 d.2] 75 (0, 0)))
    (hrow : V.heap[px]? = some (.cells #[x0, y0] 25 (0, 0))) (hpx : px < B) (hn : n ≤ 5000)
    (K : ∀ g3 cap3 W, W.ownsRow B 75 2 (.slice (some ⟨g3, 0, none⟩) (n + 1) cap3) (n + 1) ((cs ++ [d]).flatMap encS) → Below px V W → (∀ k, k < V.heap.size → k ≠ px → vv.ownBlock ≠ some k → W.heap[k]? = V.heap[k]?) → (vv.ownBlock = some g3 ∨ g3 = V.heap.size) → V.heap.size ≤ W.heap.size → W.heap[px]? = some (.cells #[x0, .slice (some ⟨g3, 0, none⟩) (n + 1) cap3] 25 (0, 0)) →
      Q .normal ((a.put (some 98) (.slice (some ⟨g3, 0, none⟩) (n + 1) cap3)).put (some 99) (.pointer (some ⟨px, 1, none⟩))) W) : wpList Try.prog mv10Reg Q (mv10Reg.toList.drop 10) a V := by
  obtain ⟨o6, o7, o8, hdr, h6, h7, h8⟩ : ∃ o6 o7 o8, mv10Reg.toList.drop 10 = [o6, o7, o8] ∧ mv10Reg[10]? = some o6 ∧ mv10Reg[11]? = some o7 ∧ mv10Reg[12]? = some o8 := by
    have hs : mv10Reg.size = 13 := by kernel_rfl
    refine ⟨mv10Reg[10], mv10Reg[11], mv10Reg[12], ?_, Array.getElem?_eq_getElem _, Array.getElem?_eq_getElem _, Array.getElem?_eq_getElem _⟩
    rw [List.drop_eq_getElem_cons (by simp [hs]), List.drop_eq_getElem_cons (by simp [hs]), List.drop_eq_getElem_cons (by simp [hs]), List.drop_eq_nil_of_le (by simp [hs])]
    simp
  rw [hdr]
  obtain ⟨i0, hi0, hz0, hz1, hz2⟩ := info_parts info75m
  have e1 : (cs ++ [d]).flatMap encS = cs.flatMap encS ++ [.int .i64 d.1, .int .i64 d.2] := by rw [List.flatMap_append]; rfl
  rw [e1] at K
  refine wpList_tail (op_at h6 (·.guard) (x := none) (by kernel_rfl)) (step_append_lies V (op_at h6 (·.guard) (x := none) (by kernel_rfl)) (.tmp 89) (.tmp 97) 23 (op_at h6 (·.op) (by kernel_rfl)) B 75 i0 _ 2 16 u23m hi0 hz0 hz1 hz2 rfl (by omega) _ n (cs.flatMap encS) e28 hown ⟨g2, 0, none⟩ 1 1 [.int .i64 d.1, .int .i64 d.2] e30 rfl (World.news_of_block hnew) (by simp [Value.oneCell']) (by omega) (by unfold maxLen; omega) (by omega) hBV V.heap.size rfl ?_)
  intro g3 cap3 V3 hown3 hgr hlie _
  have hE3 : Below B V V3 := (Below.refl B V).grown hgr hBV (own_block_ge hown)
  rw [show o6.dst = some 98 from op_at h6 (·.dst) (by kernel_rfl)]
  obtain ⟨a6, ha6⟩ : ∃ a6, a.put (some 98) (.slice (some ⟨g3, 0, none⟩) (n + 1) cap3) = a6 := ⟨_, rfl⟩
  have e7b : a6.eval (.tmp 10) = .pointer (some ⟨px, 0, none⟩) := by rw [← ha6]; exact (eval_put_other (by decide)).trans e7
  have e31a : a6.eval (.tmp 98) = .slice (some ⟨g3, 0, none⟩) (n + 1) cap3 := by rw [← ha6]; exact eval_put_same (d := 98) (by rw [h310]; decide)
  have hlen6 : a6.tmps.size = 310 := by rw [← ha6]; simp [Act.put, h310]
  have K3 := K g3 cap3
  rw [ha6] at K3
  rw [ha6]
  refine wpList_val (v := .pointer (some ⟨px, 1, none⟩)) (w' := V3) (op_at h7 (·.guard) (x := none) (by kernel_rfl)) (by simp [execOp, show o7.op = .fieldAddr 25 (.tmp 10) 1 from op_at h7 (·.op) (by kernel_rfl), go_sem, ev e7b]) ?_
  rw [show o7.dst = some 99 from op_at h7 (·.dst) (by kernel_rfl)]
  obtain ⟨a7, ha7⟩ : ∃ a7, a6.put (some 99) (.pointer (some ⟨px, 1, none⟩)) = a7 := ⟨_, rfl⟩
  have e31 : a7.eval (.tmp 98) = .slice (some ⟨g3, 0, none⟩) (n + 1) cap3 := by rw [← ha7]; exact (eval_put_other (by decide)).trans e31a
  have e32 : a7.eval (.tmp 99) = .pointer (some ⟨px, 1, none⟩) := by rw [← ha7]; exact eval_put_same (d := 99) (by rw [hlen6]; decide)
  rw [ha7] at K3
  rw [ha7]
  have hrA : V3.heap[px]? = some (.cells #[x0, y0] 25 (0, 0)) := (hE3.block px hpx).trans hrow
  have fz : V3.frozen? ⟨px, 1, none⟩ = false := by simp [World.frozen?, hrA]
  have hcA : V3.cell? ⟨px, 1, none⟩ = some y0 := cell_of_row _ _ _ _ _ _ hrA
  refine wpList_skip (w' := V3.setCell ⟨px, 1, none⟩ (.slice (some ⟨g3, 0, none⟩) (n + 1) cap3)) (op_at h8 (·.guard) (x := none) (by kernel_rfl)) (by simp [execOp, show o8.op = .store 23 (.tmp 99) (.tmp 98) from op_at h8 (·.op) (by kernel_rfl), go_sem, ev e31, ev e32, fz, hcA]) ?_
  rw [show o8.dst = none from op_at h8 (·.dst) (by kernel_rfl)]
  refine K3 _ (owns_far hown3 fun k hk => ?_) (Below.setCell (hE3.mono (Nat.le_of_lt hpx)) (p := ⟨px, 1, none⟩) (Nat.le_refl _) _) (fun k hk hne hno => ?_) hlie (by simpa [World.setCell] using hgr.size) ?_
  · simp only [World.setCell, Array.getElem?_modify]
    rw [if_neg (by omega)]
  · simp only [World.setCell, Array.getElem?_modify]
    rw [if_neg (by omega)]
    exact hgr.block k hk (fun e => hno e.symm)
  · simp [World.setCell, Array.getElem?_modify, hrA]
end Go.Proofs.Ytlaakmgdbhabfaa

/- CombMoved, walked. -/
namespace Go.Proofs.Ytlaakmgdbhabfaa
open Go.RowKit Go.Shelf
attribute [local irreducible] bitCells fitCells Z94 fitOf

/-- Both sheets while their marks are laid. -/
structure MvInv (w W : World) (p px py B : Nat) (A : Option Addr) (n c : Nat) (A' : Option Addr) (n' c' : Nat) (cs ms : List (Int × Int)) (off : Int) (j : Nat) (v1 v2 : Value) : Prop where
  base : Ext w W
  sh : SheetAt W p A n c A' n' c' cs ms
  bx : B ≤ W.heap.size
  rx : W.heap[px]? = some (.cells #[.slice A n c, v1] 25 (0, 0))
  ry : W.heap[py]? = some (.cells #[.slice A n c, v2] 25 (0, 0))
  ox : W.ownsRow B 75 2 v1 j (((moveBy off ms).take j).flatMap encS)
  oy : W.ownsRow B 75 2 v2 j (((mirror ms).take j).flatMap encS)
  ne : ∀ r, v1.ownBlock = some r → v2.ownBlock ≠ some r
section
variable {w W W' : World} {p px py B : Nat} {A : Option Addr} {n c : Nat} {A' : Option Addr} {n' c' : Nat} {cs ms : List (Int × Int)} {off : Int} {j : Nat} {v1 v2 : Value}
theorem MvInv.ext (h : MvInv w W p px py B A n c A' n' c' cs ms off j v1 v2) (e : Ext W W') : MvInv w W' p px py B A n c A' n' c' cs ms off j v1 v2 :=
  ⟨h.base.trans e, h.sh.ext e, Nat.le_trans h.bx e.size, row_ext h.rx e, row_ext h.ry e, owns_ext h.ox e, owns_ext h.oy e, h.ne⟩
end
theorem call_places {A : Option Addr} {n c : Nat} {A' : Option Addr} {n' c' : Nat} {cs ms : List (Int × Int)} {w : World} (hb : IsSheet w w.heap.size A n c A' n' c' cs ms) (h0 : sheetErr cs ms = 0) {k : Nat} (hk : k < cs.length) :
    Calls Try.prog 19 #[.agg #[.slice A n c, .slice A' n' c'], .int .i64 (k : Int)] w fun e w' => ∃ A9 c9, e = .returned (.tuple #[.slice A9 (atsOf cs ms k).length c9, .int .i64 0]) ∧ Held w' w'.heap.size 1 encI A9 (atsOf cs ms k) ∧ Ext w w' := by
  have hpe : placesErr cs ms (k : Int) = 0 := by
    unfold placesErr
    rw [if_pos h0, if_neg]
    unfold strange
    simp
    omega
  refine (places_any hb (k : Int)).mono fun e w' hp2 => ?_
  obtain ⟨e4, A5, m5, c5, rfl, hm5, hl5, hh5⟩ := post_longs hp2
  rw [hpe, if_pos rfl, places_are h0 hk] at hm5 hh5
  rw [hpe, hm5]
  exact ⟨A5, c5, rfl, hh5, e4⟩
theorem call_apart {A : Option Addr} {n c : Nat} {A' : Option Addr} {n' c' : Nat} {cs ms : List (Int × Int)} {w : World} (hb : IsSheet w w.heap.size A n c A' n' c' cs ms) (h0 : sheetErr cs ms = 0) :
    Calls Try.prog 28 #[.agg #[.slice A n c, .slice A' n' c']] w fun e w' => ∃ A9 c9, e = .returned (.tuple #[.slice A9 (apartTo cs ms ms.length).length c9, .int .i64 0]) ∧ Held w' w'.heap.size 1 encI A9 ((apartTo cs ms ms.length).map fun j : Nat => (j : Int)) ∧ Ext w w' := by
  refine (apart_any hb).mono fun e w' hp2 => ?_
  obtain ⟨e2, A4, m4, c4, rfl, hm4, hl4, hh4⟩ := post_apart h0 hp2
  rw [hm4]
  exact ⟨A4, c4, rfl, hh4, e2⟩
theorem apart_len {cs ms : List (Int × Int)} (h0 : sheetErr cs ms = 0) : (apartTo cs ms ms.length).length ≤ 12 := by
  have := (apartTo_ok cs ms ms.length).2.2.2
  have := (sheet_ok h0).1.2.2
  omega
theorem move_get {off : Int} {ms : List (Int × Int)} {j : Nat} (hj : j < ms.length) : (moveBy off ms).take (j + 1) = (moveBy off ms).take j ++ [(ms[j].1 + off, ms[j].2 + off)] := by
  rw [List.take_succ_eq_append_getElem (by rw [move_len]; exact hj)]
  simp [moveBy]
theorem mirror_take {ms : List (Int × Int)} {j : Nat} (hj : j < ms.length) : (mirror ms).take (j + 1) = (mirror ms).take j ++ [(500 - (ms[ms.length - 1 - j]'(by omega)).2, 500 - (ms[ms.length - 1 - j]'(by omega)).1)] := by
  rw [List.take_succ_eq_append_getElem (by rw [mir_len]; exact hj)]
  obtain ⟨h, e⟩ := mir_get (ms := ms) (j := j) (by rw [mir_len]; exact hj)
  rw [e]
  rfl
theorem held_pair2 {w : World} {B : Nat} {A : Option Addr} {xs : List (Int × Int)} (h : Held w B 2 encS A xs) {b off : Nat} (hA : A = some ⟨b, off, none⟩) {k : Nat} (hk : k < xs.length) : w.cell? ⟨b, off + k * 2, none⟩ = some (.int .i64 xs[k].1) ∧ w.cell? ⟨b, off + k * 2 + 1, none⟩ = some (.int .i64 xs[k].2) := by
  obtain ⟨b', off', e, _, c0, c1⟩ := held_pair h hk
  rw [hA] at e
  injection e with e; injection e with e1 e2
  subst e1 e2
  have e2 : xs.getD k (0, 0) = xs[k] := by simp [hk]
  rw [e2] at c0 c1
  exact ⟨c0, c1⟩
theorem mark_in {ms : List (Int × Int)} (h : marksOk 0 ms = true) {j : Nat} (hj : j < ms.length) : 0 ≤ ms[j].1 ∧ ms[j].1 ≤ 500 ∧ 0 ≤ ms[j].2 ∧ ms[j].2 ≤ 500 := by
  have := marks_at (f := 0) (Int.le_refl 0) h hj
  rw [show ms.getD j (0, 0) = ms[j] from by simp [hj]] at this
  omega
theorem wrap_in (x : Int) (h : -1000000 ≤ x ∧ x ≤ 1000000) : IntKind.i64.wrap x = x := IntWalk.i64_in _ (by omega)
end Go.Proofs.Ytlaakmgdbhabfaa

/- CombMoved, walked: the function. -/
namespace Go.Proofs.Ytlaakmgdbhabfaa
open Go.RowKit Go.Shelf
attribute [local irreducible] bitCells fitCells Z94 fitOf

theorem int_at {w : World} {A : Option Addr} {xs : List Int} (hh : Held w w.heap.size 1 encI A xs) {k : Nat} (hk : k < xs.length) : ∃ b off, A = some ⟨b, off, none⟩ ∧ w.cell? ⟨b, off + k, none⟩ = some (.int .i64 xs[k]) := by
  rcases hh with h | ⟨b, off, rfl, hlt', hc⟩
  · simp [h] at hk
  · refine ⟨b, off, rfl, ?_⟩
    have h2 := hc k xs[k] (List.getElem?_eq_getElem hk) 0 _ rfl
    simpa using h2

set_option maxRecDepth 100000 in
set_option maxHeartbeats 16000000 in
theorem moved_any {A : Option Addr} {n c : Nat} {A' : Option Addr} {n' c' : Nat} {cs ms : List (Int × Int)} {w : World} (hb : IsSheet w w.heap.size A n c A' n' c' cs ms) (x y : Int) (hx0 : 0 ≤ x) (hx1 : x ≤ 65535) (hy0 : 0 ≤ y) (hy1 : y ≤ 255) :
    Calls Try.prog 12 #[.agg #[.slice A n c, .slice A' n' c'], .int .u16 x, .int .u8 y] w fun e w' => e = .returned (.bool true) ∧ Ext w w' := by
  have hX0 := SheetAt.new hb
  have hE0 : Ext w (w.alloc (.cells #[.slice A n c, .slice A' n' c'] 25)) := ext_alloc w _
  have HN := Lib.hid (And.intro hb.ncs hb.nms)
  have HB := Lib.hid hb
  clear hb
  go_enter Try.func12, Try.ntmps12
  go_upto_region 1 with fail
  obtain ⟨w0, hw0⟩ : ∃ w0, w.alloc (.cells #[.slice A n c, .slice A' n' c'] 25) = w0 := ⟨_, rfl⟩
  have hz : w.heap.size < w0.heap.size := by rw [← hw0]; simp
  rw [hw0] at hX0 hE0
  rw [hw0]
  obtain ⟨p, hp⟩ : ∃ p, w.heap.size = p := ⟨_, rfl⟩
  rw [hp] at hX0
  rw [hp]
  have HP := Lib.hid (And.intro hp hz)
  have HX := Lib.hid hX0
  have HE := Lib.hid hE0
  clear hX0 hE0 hw0 hp hz
  obtain ⟨q0, q1⟩ := HX.out.cells
  have h39 := fine_any HX.out.sheet
  by_cases h0 : sheetErr cs ms = 0
  · rw [decide_eq_true h0] at h39
    have HS := Lib.hid h0
    clear h0
    go_upto_region 3 with (refine h39.mono ?_; rintro e w1 ⟨rfl, e1⟩)
    have HE := Lib.hid (HE.out.trans e1)
    have HX := Lib.hid (HX.out.ext e1)
    have HZ := Lib.hid (Nat.lt_of_lt_of_le HP.out.2 e1.size)
    clear e1 h39 q0 q1
    have hsm := sheet_ok HS.out
    have hn12 : n' ≤ 12 := by have := HN.out.2; have := hsm.1; omega
    have hn8 : n ≤ 8 := by have := HN.out.1; have := hsm.1; omega
    have hn1 : 1 ≤ n := by have := HN.out.1; have := hsm.1; omega
    have hn1' : 1 ≤ n' := by have := HN.out.2; have := hsm.1; omega
    have hmk := hsm.2.2
    have HMK := Lib.hid hmk
    obtain ⟨off, hof, hoff⟩ : ∃ off : Nat, x.tmod 501 = (off : Int) ∧ off ≤ 500 := by
      have h1 := Int.tmod_nonneg (a := x) 501 hx0
      have h2 := Int.tmod_lt_of_pos x (b := 501) (by omega)
      exact ⟨(x.tmod 501).toNat, by omega, by omega⟩
    obtain ⟨kk, hkk, hkn⟩ : ∃ kk : Nat, y.tmod (n : Int) = (kk : Int) ∧ kk < n := by
      have h1 := Int.tmod_nonneg (a := y) (n : Int) hy0
      have h2 := Int.tmod_lt_of_pos y (b := (n : Int)) (by omega)
      exact ⟨(y.tmod (n : Int)).toNat, by omega, by omega⟩
    have hkc : kk < cs.length := by rw [← HN.out.1]; exact hkn
    obtain ⟨b1, o1, rfl⟩ : ∃ b1 o1, A' = some ⟨b1, o1, none⟩ := by
      rcases HB.out.hms with h | ⟨b, off, h, _⟩
      · have := HN.out.2
        rw [h] at this
        simp at this
        omega
      · exact ⟨b, off, h⟩
    have HKC := Lib.hid hkc
    have HKN := Lib.hid (And.intro hkn hn8)
    have HOFF := Lib.hid hoff
    have HN1 := Lib.hid (And.intro hn1 (And.intro hn1' hn12))
    clear hsm hmk hkc
    refine mv3_wp (p := p) (A := A) (n := n) (c := c) (off := off) (kk := kk) (x := x) (y := y) rfl rfl rfl rfl (wrap_in _ (by omega)) hof (wrap_in _ (by omega)) (fun W hW => (HX.out.ext hW).cells.1) hkk (by omega) ?_
    intro W eW
    have hdr : mv3Reg.toList.drop 11 = [] := List.drop_eq_nil_of_le (by rw [Array.length_toList]; exact Nat.le_of_eq (by kernel_rfl))
    rw [hdr]
    simp only [wpList, puts, List.foldl_cons, List.foldl_nil, Act.put, List.setIfInBounds_toArray, List.set_cons_succ, List.set_cons_zero]
    have HE2 := Lib.hid (HE.out.trans eW)
    have HX2 := Lib.hid (HX.out.ext eW)
    have HZ2 := Lib.hid (Nat.lt_of_lt_of_le HZ.out eW.size)
    clear eW hdr hof hkk hoff hkn hx0 hx1 hy0 hy1 hn1 hn1' hn8 HE HX HZ
    go_upto_region 4 with fail
    refine mb4_wp (p := p) (A := A) (n := n) (c := c) rfl rfl (fun W hW => (HX2.out.ext hW).cells.1) ?_
    intro W1 px py eW hpx hpy hne rx ry
    simp only [puts, List.foldl_cons, List.foldl_nil, Act.put, List.setIfInBounds_toArray, List.set_cons_succ, List.set_cons_zero]
    obtain ⟨B, hBd⟩ : ∃ B, W1.heap.size = B := ⟨_, rfl⟩
    have hpxB : px < B := by rw [← hBd]; exact (Array.getElem?_eq_some_iff.1 rx).1
    have hpyB : py < B := by rw [← hBd]; exact (Array.getElem?_eq_some_iff.1 ry).1
    have HPP := Lib.hid (show p < px ∧ p < py ∧ w.heap.size ≤ px ∧ w.heap.size ≤ py ∧ px ≠ py ∧ px < B ∧ py < B from by have := HZ2.out; have := HP.out.1; omega)
    have hinv : MvInv w W1 p px py B A n c (some ⟨b1, o1, none⟩) n' c' cs ms off 0 (.slice none 0 0) (.slice none 0 0) :=
      ⟨HE2.out.trans eW, HX2.out.ext eW, Nat.le_of_eq hBd.symm, rx, ry, World.ownsRow_nil _ _ _ _, World.ownsRow_nil _ _ _ _, fun r h => by simp [Value.ownBlock] at h⟩
    have HI := Lib.hid hinv
    clear hinv eW hpx hpy hne rx ry hBd hpxB hpyB HE2 HX2 HZ2
    go_wp2
    go_loopw [11, 12, 13] (fun i _ _ wr => ∃ j : Nat, j ≤ n' ∧ i = .int .i64 j ∧ Hid (∃ v1 v2, MvInv w wr p px py B A n c (some ⟨b1, o1, none⟩) n' c' cs ms off j v1 v2)) (fun i _ _ _ => n' - (intOf i).toNat)
    case atStart => exact ⟨0, Nat.zero_le _, rfl, Lib.hid ⟨_, _, HI.out⟩⟩
    case round =>
      obtain ⟨j, hj, rfl, hI⟩ := hrel
      clear HI
      obtain ⟨v1, v2, hI⟩ := hI.out
      have HI := Lib.hid hI
      clear hI
      obtain ⟨q0, q1⟩ := HI.out.sh.cells
      by_cases hjn : j < n'
      · have hjz : (j : Int) < (n' : Int) := by omega
        have hjl : j < ms.length := by rw [← HN.out.2]; exact hjn
        have hk1 : ms.length - 1 - j < ms.length := by omega
        go_upto_region 8 with fail
        have hm1 := mark_in HMK.out hjl
        have hm2 := mark_in HMK.out hk1
        have ht1 := move_get (off := (off : Int)) hjl
        have ht2 := mirror_take hjl
        have hcell := fun W (hW : Ext wr W) => held_pair2 (HI.out.sh.ext hW).sheet.hms rfl hjl
        obtain ⟨k, hk⟩ : ∃ k, ms.length - 1 - j = k := ⟨_, rfl⟩
        have hkn : k < n' ∧ (n' : Int) - 1 - (j : Int) = (k : Int) := by have := HN.out.2; omega
        obtain ⟨lo, hlo⟩ : ∃ lo, ms[j].1 = lo := ⟨_, rfl⟩
        obtain ⟨hi, hhi⟩ : ∃ hi, ms[j].2 = hi := ⟨_, rfl⟩
        obtain ⟨lo2, hlo2⟩ : ∃ lo2, (ms[ms.length - 1 - j]'hk1).1 = lo2 := ⟨_, rfl⟩
        obtain ⟨hi2, hhi2⟩ : ∃ hi2, (ms[ms.length - 1 - j]'hk1).2 = hi2 := ⟨_, rfl⟩
        rw [hlo, hhi] at hm1 ht1
        rw [hlo2, hhi2] at hm2 ht2
        simp only [hlo, hhi] at hcell
        have hcell2 : ∀ W, Ext wr W → W.cell? ⟨b1, o1 + k * 2, none⟩ = some (.int .i64 lo2) ∧ W.cell? ⟨b1, o1 + k * 2 + 1, none⟩ = some (.int .i64 hi2) := fun W hW => by
          have h := held_pair2 (HI.out.sh.ext hW).sheet.hms rfl hk1
          rw [hlo2, hhi2, hk] at h
          exact h
        have HT1 := Lib.hid ht1
        have HT2 := Lib.hid ht2
        have HO := Lib.hid HOFF.out
        clear hlo hhi hlo2 hhi2 ht1 ht2 hk q0 q1
        refine mb8_wp (p := p) (b := b1) (of := o1) (n := n') (c := c') (jj := j) (q1 := n' - 1) (k := k) (lo := lo) (hi := hi) (lo2 := lo2) (hi2 := hi2) rfl rfl rfl (fun W hW => (HI.out.sh.ext hW).cells.2) hjn
          (fun W hW => (hcell W hW).1) (fun W hW => (hcell W hW).2) ((wrap_in _ (by omega)).trans (by omega)) ((wrap_in _ (by omega)).trans (by omega)) hkn.1 (fun W hW => (hcell2 W hW).1) (fun W hW => (hcell2 W hW).2) ?_
        intro W2 g1 g2 eW hg1 hg2 hgne r1 r2
        simp only [puts, List.foldl_cons, List.foldl_nil, Act.put, List.setIfInBounds_toArray, List.set_cons_succ, List.set_cons_zero]
        have HI2 := Lib.hid (HI.out.ext eW)
        have HR1 := Lib.hid r1
        have HR2 := Lib.hid r2
        have hb1 : ∀ r, v1.ownBlock = some r → B ≤ r ∧ r < wr.heap.size := fun r hr => own_lt HI.out.ox r hr
        have hb2 : ∀ r, v2.ownBlock = some r → B ≤ r ∧ r < wr.heap.size := fun r hr => own_lt HI.out.oy r hr
        have HB1 := Lib.hid hb1
        have HB2 := Lib.hid hb2
        have HG := Lib.hid (show wr.heap.size ≤ g1 ∧ wr.heap.size ≤ g2 ∧ B ≤ wr.heap.size from ⟨hg1, hg2, HI.out.bx⟩)
        clear eW r1 r2 hb1 hb2 hg1 hg2 hcell hcell2 hgne
        go_upto_region 9 with fail
        refine mv9_wp (px := px) (pm := g1) (vv := v1) (am := lo) (bm := hi) (off := off) (ra := lo + off) (rb := hi + off) rfl rfl rfl rfl (fun W hW => cell_of_row _ _ _ _ _ _ (row_ext HI2.out.rx hW)) (fun W hW => cell_of_row _ _ _ _ _ _ (row_ext HR1.out hW)) (wrap_in _ (by have := HO.out; omega)) (fun W hW => cell_of_row _ _ _ _ _ _ (row_ext HR1.out hW)) (wrap_in _ (by have := HO.out; omega)) ?_
        intro W3 v10 v11 eW i10 i11
        obtain ⟨g3, rfl, hg3⟩ : ∃ g, v11 = .slice (some ⟨g, 0, none⟩) 1 1 ∧ W3.heap[g]? = some (.cells #[.int .i64 (lo + off), .int .i64 (hi + off)] 75 (0, 0)) := i11
        have HI3 := Lib.hid (HI2.out.ext eW)
        have HR23 := Lib.hid (row_ext HR2.out eW)
        simp only [puts, List.foldl_cons, List.foldl_nil, Act.put, List.setIfInBounds_toArray, List.set_cons_succ, List.set_cons_zero]
        refine mv9_tail (B := B) (px := px) (n := j) (g2 := g3) (vv := v1) (cs := (moveBy off ms).take j) (d := (lo + off, hi + off)) rfl rfl rfl rfl HI3.out.ox HI3.out.bx hg3 HI3.out.rx HPP.out.2.2.2.2.2.1 (by omega) ?_
        intro g4 cap4 W4 hown4 hB4 hoth hlie hsz hrow4
        simp only [Act.put, List.setIfInBounds_toArray, List.set_cons_succ, List.set_cons_zero]
        have hw3 : wr.heap.size ≤ W3.heap.size := by have := HI2.out.bx; have := eW.size; have h := (Array.getElem?_eq_some_iff.1 HR1.out).1; have := HG.out; omega
        have hlt2 : g2 < W3.heap.size := (Array.getElem?_eq_some_iff.1 HR23.out).1
        have hEW : Ext w W4 := Below.trans HI3.out.base (hB4.mono HPP.out.2.2.1)
        have hI4 : MvInv w W4 p px py B A n c (some ⟨b1, o1, none⟩) n' c' cs ms off j v1 v2 → True := fun _ => trivial
        clear hI4
        have hry4 : W4.heap[py]? = some (.cells #[.slice A n c, v2] 25 (0, 0)) := (hoth py (by have := HPP.out; have := HI3.out.bx; omega) (fun e => HPP.out.2.2.2.2.1 e.symm) (fun h => by have := HB1.out py h; have := HPP.out; omega)).trans HI3.out.ry
        have hoy4 : W4.ownsRow B 75 2 v2 j (((mirror ms).take j).flatMap encS) := own_stay HI3.out.oy fun r hr => hoth r (by have := HB2.out r hr; omega) (fun e => by have := HB2.out r hr; have := HPP.out; omega) (fun h => HI.out.ne r h hr)
        have hr24 : W4.heap[g2]? = some (.cells #[.int .i64 lo2, .int .i64 hi2] 75 (0, 0)) := (hoth g2 hlt2 (fun e => by have := HG.out; have := HPP.out; omega) (fun h => by have := HB1.out g2 h; have := HG.out; omega)).trans HR23.out
        have hsh4 : SheetAt W4 p A n c (some ⟨b1, o1, none⟩) n' c' cs ms := ⟨(hB4.block p HPP.out.1).trans HI3.out.sh.row, HB.out.ext hEW⟩
        have hne4 : ∀ r, v2.ownBlock = some r → g4 ≠ r := fun r hr e => by
          subst e
          rcases hlie with h | h
          · exact HI.out.ne _ h hr
          · have := HB2.out _ hr; omega
        have HOX4 := Lib.hid hown4
        have HROW4 := Lib.hid hrow4
        have HRY4 := Lib.hid hry4
        have HOY4 := Lib.hid hoy4
        have HR24 := Lib.hid hr24
        have HSH4 := Lib.hid hsh4
        have HNE4 := Lib.hid hne4
        have HE4 := Lib.hid hEW
        have HB4 := Lib.hid (show B ≤ W4.heap.size from by have := HI3.out.bx; omega)
        have HG4 := Lib.hid (show wr.heap.size ≤ W3.heap.size ∧ W3.heap.size ≤ W4.heap.size from ⟨hw3, hsz⟩)
        clear eW i10 hg3 hown4 hB4 hoth hlie hsz hrow4 hw3 hlt2 hEW hry4 hoy4 hr24 hsh4 hne4 HI3 HR23 HI2 HR1 HR2
        go_upto_region 10 with fail
        refine mv10_wp (px := py) (pm := g2) (vv := v2) (am := lo2) (bm := hi2) (ra := 500 - hi2) (rb := 500 - lo2) rfl rfl rfl (fun W hW => cell_of_row _ _ _ _ _ _ (row_ext HRY4.out hW)) (fun W hW => cell_of_row _ _ _ _ _ _ (row_ext HR24.out hW)) (wrap_in _ (by omega)) (fun W hW => cell_of_row _ _ _ _ _ _ (row_ext HR24.out hW)) (wrap_in _ (by omega)) ?_
        intro W5 v8 v9 eW i8 i9
        obtain ⟨g5, rfl, hg5⟩ : ∃ g, v9 = .slice (some ⟨g, 0, none⟩) 1 1 ∧ W5.heap[g]? = some (.cells #[.int .i64 (500 - hi2), .int .i64 (500 - lo2)] 75 (0, 0)) := i9
        simp only [puts, List.foldl_cons, List.foldl_nil, Act.put, List.setIfInBounds_toArray, List.set_cons_succ, List.set_cons_zero]
        refine mv10_tail (B := B) (px := py) (n := j) (g2 := g5) (vv := v2) (cs := (mirror ms).take j) (d := (500 - hi2, 500 - lo2)) rfl rfl rfl rfl (owns_ext HOY4.out eW) (Nat.le_trans HB4.out eW.size) hg5 (row_ext HRY4.out eW) HPP.out.2.2.2.2.2.2 (by omega) ?_
        intro g6 cap6 W6 hown6 hB6 hoth hlie hsz hrow6
        simp only [Act.put, List.setIfInBounds_toArray, List.set_cons_succ, List.set_cons_zero]
        have hlt4 : g4 < W4.heap.size := by
          have := own_lt HOX4.out g4 (by simp [Value.ownBlock])
          omega
        have hw5 := eW.size
        have hg4B := (own_lt HOX4.out g4 (by simp [Value.ownBlock])).1
        have hEW : Ext w W6 := Below.trans (HE4.out.trans eW) (hB6.mono HPP.out.2.2.2.1)
        have hinv : MvInv w W6 p px py B A n c (some ⟨b1, o1, none⟩) n' c' cs ms off (j + 1) (.slice (some ⟨g4, 0, none⟩) (j + 1) cap4) (.slice (some ⟨g6, 0, none⟩) (j + 1) cap6) := by
          refine ⟨hEW, ⟨(hB6.block p HPP.out.2.1).trans (row_ext HSH4.out.row eW), HB.out.ext hEW⟩, by have := HB4.out; omega, ?_, hrow6, ?_, ?_, ?_⟩
          · exact (hoth px (by have := HPP.out; have := HB4.out; omega) HPP.out.2.2.2.2.1 (fun h => by have := HB2.out px h; have := HPP.out; omega)).trans (row_ext HROW4.out eW)
          · rw [HT1.out]
            exact own_stay (owns_ext HOX4.out eW) fun r hr => by
              have hr' : r = g4 := by simp [Value.ownBlock] at hr; exact hr.symm
              subst hr'
              exact hoth r (by omega) (by have := HPP.out; omega) (fun h => HNE4.out r h rfl)
          · rw [HT2.out]
            exact hown6
          · intro r hr hr2
            have h1 : r = g4 := by simp [Value.ownBlock] at hr; exact hr.symm
            have h2 : r = g6 := by simp [Value.ownBlock] at hr2; exact hr2.symm
            subst h1
            subst h2
            rcases hlie with h | h
            · exact HNE4.out _ h rfl
            · omega
        have HINV := Lib.hid hinv
        clear eW i8 hg5 hown6 hB6 hoth hlie hsz hrow6 hlt4 hw5 hg4B hEW hinv HOX4 HROW4 HRY4 HOY4 HR24 HSH4 HNE4 HE4 HB4 HG4 HG HB1 HB2 HI HT1 HT2
        go_wp2
        go_roundw
        case measure => simp [intOf]; omega
        case rel => exact ⟨j + 1, by omega, by go_num, Lib.hid ⟨_, _, HINV.out⟩⟩
      · have hjz : ¬ (j : Int) < (n' : Int) := by omega
        obtain rfl : n' = j := by omega
        have hIo := HI.out
        obtain ⟨Az, cz, hv1⟩ := owns_slice hIo.ox
        obtain ⟨Ay, cy, hv2⟩ := owns_slice hIo.oy
        subst hv1
        subst hv2
        have htz : (moveBy off ms).take n' = moveBy off ms := by rw [HN.out.2, ← move_len off ms, List.take_length]
        have hty : (mirror ms).take n' = mirror ms := by rw [HN.out.2, ← mir_len ms, List.take_length]
        have hoz := hIo.ox
        have hoy := hIo.oy
        rw [htz] at hoz
        rw [hty] at hoy
        have hhz := own_held (enc := encS) (fun _ => rfl) (by rw [move_len]; exact HN.out.2) hoz
        have hhy := own_held (enc := encS) (fun _ => rfl) (by rw [mir_len]; exact HN.out.2) hoy
        have hs1 := hIo.sh.sheet
        have HX := Lib.hid hIo.sh
        have HZ : Hid (SheetAt wr px A n c Az n' cz cs (moveBy off ms)) := Lib.hid ⟨hIo.rx, hs1.ncs, by rw [move_len]; exact HN.out.2, hs1.nle, hs1.nle', hs1.cap, hhz.2, hs1.hcs, hhz.1⟩
        have HY : Hid (SheetAt wr py A n c Ay n' cy cs (mirror ms)) := Lib.hid ⟨hIo.ry, hs1.ncs, by rw [mir_len]; exact HN.out.2, hs1.nle, hs1.nle', hs1.cap, hhy.2, hs1.hcs, hhy.1⟩
        have HE := Lib.hid hIo.base
        have HSY := Lib.hid (sheet_mir HS.out)
        clear hIo htz hty hoz hoy hhz hhy hs1 HI
        clear q0 q1
        have hfm := few_mir (cs := cs) (ms := ms) HS.out
        have hmt := teeth_ok HS.out HKC.out
        obtain ⟨F1, hF1⟩ : ∃ F1, fewOf cs ms = F1 := ⟨_, rfl⟩
        rw [hF1] at hfm
        have HF1 := Lib.hid hF1
        have h47 := few47_any HX.out.sheet HS.out
        rw [hF1] at h47
        clear hF1 hmt
        obtain ⟨q0, q1⟩ := HX.out.cells
        go_wp2_with fail
        refine h47.mono ?_
        rintro e w2 ⟨rfl, e2⟩
        have HE := Lib.hid (HE.out.trans e2)
        have HX := Lib.hid (HX.out.ext e2)
        have HY := Lib.hid (HY.out.ext e2)
        have HZ := Lib.hid (HZ.out.ext e2)
        clear e2 h47 q0 q1
        have h47 := few47_any HY.out.sheet HSY.out
        rw [hfm] at h47
        obtain ⟨q0, q1⟩ := HY.out.cells
        go_wp2_with fail
        refine h47.mono ?_
        rintro e w3 ⟨rfl, e2⟩
        have HE := Lib.hid (HE.out.trans e2)
        have HX := Lib.hid (HX.out.ext e2)
        have HY := Lib.hid (HY.out.ext e2)
        have HZ := Lib.hid (HZ.out.ext e2)
        clear e2 h47 q0 q1 hfm
        have h19 := call_places HX.out.sheet HS.out HKC.out
        obtain ⟨ps, hps⟩ : ∃ ps, atsOf cs ms kk = ps := ⟨_, rfl⟩
        have hpl : ps.length ≤ 501 := by rw [← hps]; exact ats_few cs ms kk
        rw [hps] at h19
        have HPS := Lib.hid hps
        clear hps
        obtain ⟨q0, q1⟩ := HX.out.cells
        go_wp2_with fail
        refine h19.mono ?_
        rintro e w4 ⟨A3, c3, rfl, hh3, e2⟩
        have HE := Lib.hid (HE.out.trans e2)
        have HX := Lib.hid (HX.out.ext e2)
        have HY := Lib.hid (HY.out.ext e2)
        have HZ := Lib.hid (HZ.out.ext e2)
        have H3 := Lib.hid hh3
        clear e2 h19 hh3 q0 q1
        have h19 := call_places HY.out.sheet HSY.out HKC.out
        have hqs := ats_mir HS.out HKC.out
        rw [HPS.out] at hqs
        obtain ⟨qs, hqse⟩ : ∃ qs, atsOf cs (mirror ms) kk = qs := ⟨_, rfl⟩
        rw [hqse] at h19 hqs
        have hql : qs.length = ps.length := by rw [hqs]; simp
        rw [hql] at h19
        have HQS := Lib.hid hqs
        have HQL := Lib.hid hql
        clear hqse hqs hql
        obtain ⟨q0, q1⟩ := HY.out.cells
        go_wp2_with fail
        refine h19.mono ?_
        rintro e w5 ⟨A4, c4, rfl, hh4, e2⟩
        have HE := Lib.hid (HE.out.trans e2)
        have HX := Lib.hid (HX.out.ext e2)
        have HY := Lib.hid (HY.out.ext e2)
        have HZ := Lib.hid (HZ.out.ext e2)
        have H3 := Lib.hid (Held.ext H3.out e2)
        have H4 := Lib.hid hh4
        clear e2 h19 hh4 q0 q1
        have h28 := call_apart HX.out.sheet HS.out
        have hal := apart_len (cs := cs) (ms := ms) HS.out
        have hay := apartTo_mir (cs := cs) (ms := ms) HS.out ms.length
        obtain ⟨al, has⟩ : ∃ al, apartTo cs ms ms.length = al := ⟨_, rfl⟩
        rw [has] at h28 hal hay
        have HAS := Lib.hid has
        have HAY := Lib.hid hay
        clear has hay
        obtain ⟨q0, q1⟩ := HX.out.cells
        go_wp2_with fail
        refine h28.mono ?_
        rintro e w6 ⟨A5, c5, rfl, hh5, e2⟩
        have HE := Lib.hid (HE.out.trans e2)
        have HX := Lib.hid (HX.out.ext e2)
        have HY := Lib.hid (HY.out.ext e2)
        have HZ := Lib.hid (HZ.out.ext e2)
        have H3 := Lib.hid (Held.ext H3.out e2)
        have H4 := Lib.hid (Held.ext H4.out e2)
        have H5 := Lib.hid hh5
        clear e2 h28 hh5 q0 q1
        have h28 := call_apart HY.out.sheet HSY.out
        rw [mir_len, HAY.out] at h28
        obtain ⟨q0, q1⟩ := HY.out.cells
        go_wp2_with fail
        refine h28.mono ?_
        rintro e w7 ⟨A6, c6, rfl, _, e2⟩
        have HE := Lib.hid (HE.out.trans e2)
        have HX := Lib.hid (HX.out.ext e2)
        have HY := Lib.hid (HY.out.ext e2)
        have HZ := Lib.hid (HZ.out.ext e2)
        have H3 := Lib.hid (Held.ext H3.out e2)
        have H4 := Lib.hid (Held.ext H4.out e2)
        have H5 := Lib.hid (Held.ext H5.out e2)
        clear e2 h28 q0 q1
        have h49 := count_any HX.out.sheet
        obtain ⟨q0, q1⟩ := HX.out.cells
        go_wp2_with fail
        refine h49.mono ?_
        rintro e w8 ⟨e2, P, hK, rfl⟩
        have HE := Lib.hid (HE.out.trans e2)
        have HX := Lib.hid (HX.out.ext e2)
        have HY := Lib.hid (HY.out.ext e2)
        have HZ := Lib.hid (HZ.out.ext e2)
        have H3 := Lib.hid (Held.ext H3.out e2)
        have H4 := Lib.hid (Held.ext H4.out e2)
        have H5 := Lib.hid (Held.ext H5.out e2)
        obtain ⟨ca, cf, hcf⟩ : ∃ ca cf, countAns cs ms P = (ca, cf) := ⟨_, _, rfl⟩
        rw [hcf]
        dsimp only
        have HCF := Lib.hid hcf
        have HK := Lib.hid hK
        clear e2 h49 hcf hK q0 q1
        have h49 := count_any HY.out.sheet
        obtain ⟨q0, q1⟩ := HY.out.cells
        go_wp2_with fail
        refine h49.mono ?_
        rintro e w9 ⟨e2, P2, hK2, rfl⟩
        have HE := Lib.hid (HE.out.trans e2)
        have HX := Lib.hid (HX.out.ext e2)
        have HY := Lib.hid (HY.out.ext e2)
        have HZ := Lib.hid (HZ.out.ext e2)
        have H3 := Lib.hid (Held.ext H3.out e2)
        have H4 := Lib.hid (Held.ext H4.out e2)
        have H5 := Lib.hid (Held.ext H5.out e2)
        have hc2 := count_mir HS.out HK.out hK2
        rw [HCF.out] at hc2
        rw [hc2]
        dsimp only
        clear e2 h49 hK2 hc2 q0 q1
        obtain ⟨bA, oA, rfl⟩ : ∃ bA oA, A = some ⟨bA, oA, none⟩ := by
          rcases HB.out.hcs with h | ⟨b, off, h, _⟩
          · have := HN1.out.1
            have := HN.out.1
            rw [h] at this
            simp at this
            omega
          · exact ⟨b, off, h⟩
        obtain ⟨q0, q1⟩ := HX.out.cells
        go_upto_region 21 with fail
        have hcmb : (1 ≤ cs[kk].1 ∧ cs[kk].1 ≤ 50) ∧ 2 ≤ cs[kk].2 ∧ cs[kk].2 ≤ 20 := by
          have h1 := List.all_eq_true.1 (sheet_ok HS.out).2.1 cs[kk] (List.getElem_mem HKC.out)
          simp [combBad, inside] at h1
          omega
        have hspan : spanOf cs kk = (cs[kk].2 - 1) * cs[kk].1 := by
          unfold spanOf
          rw [show cs.getD kk (0, 0) = cs[kk] from by rw [List.getD_eq_getElem?_getD, List.getElem?_eq_getElem HKC.out]; rfl]
        have hcc : ∀ W, Ext w9 W → W.cell? ⟨bA, oA + kk * 2, none⟩ = some (.int .i64 cs[kk].1) ∧ W.cell? ⟨bA, oA + kk * 2 + 1, none⟩ = some (.int .i64 cs[kk].2) := fun W hW => held_pair2 (HX.out.ext hW).sheet.hcs rfl HKC.out
        obtain ⟨sp, hsp⟩ : ∃ sp, cs[kk].1 = sp := ⟨_, rfl⟩
        obtain ⟨T, hT⟩ : ∃ T, cs[kk].2 = T := ⟨_, rfl⟩
        rw [hsp, hT] at hcmb hspan
        simp only [hsp, hT] at hcc
        obtain ⟨sn, hsn⟩ : ∃ sn, (T - 1) * sp = sn := ⟨_, rfl⟩
        rw [hsn] at hspan
        have hsnb : 0 ≤ sn ∧ sn ≤ 1000 := by
          rw [← hsn]
          have := mul_bd (a := T - 1) (b := sp) (M := 20) (N := 50) (by omega) (by omega) (by omega) (by omega)
          omega
        have HSP := Lib.hid hspan
        have HSNB := Lib.hid hsnb
        clear hsp hT hspan hsnb
        refine mv21_wp (p := p) (b := bA) (of := oA) (n := n) (c := c) (kk := kk) (T := T) (T1 := T - 1) (sp := sp) (sn := sn) rfl rfl rfl (fun W hW => (HX.out.ext hW).cells.1) HKN.out.1 (fun W hW => (hcc W hW).2) (wrap_in _ (by omega)) (fun W hW => (hcc W hW).1) ((wrap_in _ (by rw [hsn]; have := HSNB.out; omega)).trans hsn) ?_
        intro W10 e2
        have hdr : mv21Reg.toList.drop 15 = [] := List.drop_eq_nil_of_le (by rw [Array.length_toList]; exact Nat.le_of_eq (by kernel_rfl))
        rw [hdr]
        simp only [wpList, puts, List.foldl_cons, List.foldl_nil, Act.put, List.setIfInBounds_toArray, List.set_cons_succ, List.set_cons_zero]
        have HE := Lib.hid (HE.out.trans e2)
        have HX := Lib.hid (HX.out.ext e2)
        have HY := Lib.hid (HY.out.ext e2)
        have HZ := Lib.hid (HZ.out.ext e2)
        have H3 := Lib.hid (Held.ext H3.out e2)
        have H4 := Lib.hid (Held.ext H4.out e2)
        have H5 := Lib.hid (Held.ext H5.out e2)
        clear e2 hdr hcc hcmb hsn q0 q1
        go_wp2
        go_loopw [31] (fun i wr => ∃ j : Nat, j ≤ ps.length ∧ i = .int .i64 j ∧ Hid (Ext W10 wr)) (fun i _ => ps.length - (intOf i).toNat)
        case atStart => exact ⟨0, Nat.zero_le _, rfl, Lib.hid (Ext.refl _)⟩
        case round =>
          obtain ⟨j, hj, rfl, hE⟩ := hrel
          by_cases hjl : j < ps.length
          · have hjz : (j : Int) < (ps.length : Int) := by omega
            have hk2 : ps.length - 1 - j < qs.length := by rw [HQL.out]; omega
            obtain ⟨b3, o3, rfl, _⟩ := int_at H3.out hjl
            obtain ⟨b4, o4, rfl, _⟩ := int_at H4.out hk2
            have hc3 : ∀ W, Ext wr W → W.cell? ⟨b3, o3 + j, none⟩ = some (.int .i64 ps[j]) := fun W hW => by
              obtain ⟨b', o', e, hc⟩ := int_at (Held.ext H3.out (hE.out.trans hW)) hjl
              injection e with e; injection e with e1 e2
              rw [e1, e2]
              exact hc
            have hc4 : ∀ W, Ext wr W → W.cell? ⟨b4, o4 + (ps.length - 1 - j), none⟩ = some (.int .i64 (500 - ps[j] - sn)) := fun W hW => by
              obtain ⟨b', o', e, hc⟩ := int_at (Held.ext H4.out (hE.out.trans hW)) hk2
              injection e with e; injection e with e1 e2
              rw [e1, e2, hc]
              congr 2
              have hg : qs[ps.length - 1 - j]? = some (500 - ps[j] - sn) := by
                rw [HQS.out, List.getElem?_reverse (by simp; omega), List.getElem?_map, List.length_map, show ps.length - 1 - (ps.length - 1 - j) = j from by omega, List.getElem?_eq_getElem hjl, HSP.out]
                rfl
              rw [List.getElem?_eq_getElem hk2] at hg
              exact Option.some.inj hg
            have hpb : 0 ≤ ps[j] ∧ ps[j] ≤ 501 := by
              have hm : ps[j] ∈ atsOf cs ms kk := by rw [HPS.out]; exact List.getElem_mem hjl
              unfold atsOf at hm
              obtain ⟨i, hi, _, e⟩ := (mem_nums _ _ _).1 hm
              omega
            obtain ⟨v, hv⟩ : ∃ v, ps[j] = v := ⟨_, rfl⟩
            simp only [hv] at hc3 hc4
            rw [hv] at hpb
            have hsnb := HSNB.out
            clear hv
            go_upto_region 25 with fail
            refine mv25_wp (b1 := b3) (o1 := o3) (m1 := ps.length) (k1 := c3) (b2 := b4) (o2 := o4) (m2 := ps.length) (k2 := c4) (jj := j) (q1 := ps.length - 1) (q2 := ps.length - 1 - j) (u := 500 - v - sn) (x := v) (x1 := 500 - v) (x2 := 500 - v - sn) (sn := sn) (r := false) rfl rfl rfl rfl rfl ((wrap_in _ (by omega)).trans (by omega)) ((wrap_in _ (by omega)).trans (by omega)) (by omega) hc4 hjl hc3 (wrap_in _ (by omega)) (wrap_in _ (by omega)) (by simp) ?_
            intro W11 e2
            have hdr : mv25Reg.toList.drop 16 = [] := List.drop_eq_nil_of_le (by rw [Array.length_toList]; exact Nat.le_of_eq (by kernel_rfl))
            rw [hdr]
            simp only [wpList, puts, List.foldl_cons, List.foldl_nil, Act.put, List.setIfInBounds_toArray, List.set_cons_succ, List.set_cons_zero]
            have HE11 := Lib.hid (hE.out.trans e2)
            clear e2 hdr hc3 hc4 hE hpb hsnb
            go_wp2
            go_roundw
            case measure => simp [intOf]; omega
            case rel => exact ⟨j + 1, by omega, by go_num, HE11⟩
          · have hjz : ¬ (j : Int) < (ps.length : Int) := by omega
            have HE := Lib.hid (HE.out.trans hE.out)
            have HX := Lib.hid (HX.out.ext hE.out)
            have HY := Lib.hid (HY.out.ext hE.out)
            have HZ := Lib.hid (HZ.out.ext hE.out)
            have H3 := Lib.hid (Held.ext H3.out hE.out)
            have H4 := Lib.hid (Held.ext H4.out hE.out)
            have H5 := Lib.hid (Held.ext H5.out hE.out)
            clear hE
            have h39 := fine_any HZ.out.sheet
            obtain ⟨q0, q1⟩ := HZ.out.cells
            by_cases h0z : sheetErr cs (moveBy off ms) = 0
            · rw [decide_eq_true h0z] at h39
              have HSZ := Lib.hid h0z
              clear h0z
              go_wp2_with (fail)
              refine h39.mono ?_
              rintro e w12 ⟨rfl, e2⟩
              have HE := Lib.hid (HE.out.trans e2)
              have HX := Lib.hid (HX.out.ext e2)
              have HY := Lib.hid (HY.out.ext e2)
              have HZ := Lib.hid (HZ.out.ext e2)
              have H3 := Lib.hid (Held.ext H3.out e2)
              have H4 := Lib.hid (Held.ext H4.out e2)
              have H5 := Lib.hid (Held.ext H5.out e2)
              clear e2 h39 q0 q1
              have hfz := few_move HS.out HSZ.out
              rw [HF1.out] at hfz
              have h47 := few47_any HZ.out.sheet HSZ.out
              rw [hfz] at h47
              clear hfz
              obtain ⟨q0, q1⟩ := HZ.out.cells
              go_wp2_with fail
              refine h47.mono ?_
              rintro e w13 ⟨rfl, e2⟩
              have HE := Lib.hid (HE.out.trans e2)
              have HX := Lib.hid (HX.out.ext e2)
              have HY := Lib.hid (HY.out.ext e2)
              have HZ := Lib.hid (HZ.out.ext e2)
              have H3 := Lib.hid (Held.ext H3.out e2)
              have H4 := Lib.hid (Held.ext H4.out e2)
              have H5 := Lib.hid (Held.ext H5.out e2)
              clear e2 h47 q0 q1
              have h19 := call_places HZ.out.sheet HSZ.out HKC.out
              have hzs := ats_move HS.out HSZ.out HKC.out
              rw [HPS.out] at hzs
              obtain ⟨zs, hzse⟩ : ∃ zs, atsOf cs (moveBy off ms) kk = zs := ⟨_, rfl⟩
              rw [hzse] at h19 hzs
              have hzl : zs.length = ps.length := by rw [hzs]; simp
              rw [hzl] at h19
              have HZS := Lib.hid hzs
              have HZL := Lib.hid hzl
              clear hzse hzs hzl
              obtain ⟨q0, q1⟩ := HZ.out.cells
              go_wp2_with fail
              refine h19.mono ?_
              rintro e w14 ⟨A7, c7, rfl, hh7, e2⟩
              have HE := Lib.hid (HE.out.trans e2)
              have HX := Lib.hid (HX.out.ext e2)
              have HY := Lib.hid (HY.out.ext e2)
              have HZ := Lib.hid (HZ.out.ext e2)
              have H3 := Lib.hid (Held.ext H3.out e2)
              have H4 := Lib.hid (Held.ext H4.out e2)
              have H5 := Lib.hid (Held.ext H5.out e2)
              have H7 := Lib.hid hh7
              clear e2 h19 hh7 q0 q1
              have h28 := call_apart HZ.out.sheet HSZ.out
              rw [move_len, apartTo_move, HAS.out] at h28
              obtain ⟨q0, q1⟩ := HZ.out.cells
              go_wp2_with fail
              refine h28.mono ?_
              rintro e w15 ⟨A8, c8, rfl, hh8, e2⟩
              have HE := Lib.hid (HE.out.trans e2)
              have HX := Lib.hid (HX.out.ext e2)
              have HY := Lib.hid (HY.out.ext e2)
              have HZ := Lib.hid (HZ.out.ext e2)
              have H3 := Lib.hid (Held.ext H3.out e2)
              have H4 := Lib.hid (Held.ext H4.out e2)
              have H5 := Lib.hid (Held.ext H5.out e2)
              have H7 := Lib.hid (Held.ext H7.out e2)
              have H8 := Lib.hid hh8
              clear e2 h28 hh8 q0 q1
              have h49 := count_any HZ.out.sheet
              obtain ⟨q0, q1⟩ := HZ.out.cells
              go_wp2_with fail
              refine h49.mono ?_
              rintro e w16 ⟨e2, P3, hK3, rfl⟩
              have HE := Lib.hid (HE.out.trans e2)
              have HX := Lib.hid (HX.out.ext e2)
              have HY := Lib.hid (HY.out.ext e2)
              have HZ := Lib.hid (HZ.out.ext e2)
              have H3 := Lib.hid (Held.ext H3.out e2)
              have H4 := Lib.hid (Held.ext H4.out e2)
              have H5 := Lib.hid (Held.ext H5.out e2)
              have H7 := Lib.hid (Held.ext H7.out e2)
              have H8 := Lib.hid (Held.ext H8.out e2)
              have hc3 := count_move HS.out HSZ.out HK.out hK3
              rw [HCF.out] at hc3
              rw [hc3]
              dsimp only
              clear e2 h49 hK3 hc3 q0 q1
              have hin := ints_any A5 A8 al.length c5 al.length c8 _ _ w16 (List.length_map _).symm (List.length_map _).symm (by omega) (by omega) H5.out H8.out
              rw [decide_eq_true rfl] at hin
              go_wp2_with fail
              refine hin.mono ?_
              rintro e w17 ⟨rfl, e2⟩
              have HE := Lib.hid (HE.out.trans (show Ext w16 w17 from e2))
              have HX := Lib.hid (HX.out.ext (show Ext w16 w17 from e2))
              have HY := Lib.hid (HY.out.ext (show Ext w16 w17 from e2))
              have HZ := Lib.hid (HZ.out.ext (show Ext w16 w17 from e2))
              have H3 := Lib.hid (Held.ext H3.out (show Ext w16 w17 from e2))
              have H4 := Lib.hid (Held.ext H4.out (show Ext w16 w17 from e2))
              have H5 := Lib.hid (Held.ext H5.out (show Ext w16 w17 from e2))
              have H7 := Lib.hid (Held.ext H7.out (show Ext w16 w17 from e2))
              have H8 := Lib.hid (Held.ext H8.out (show Ext w16 w17 from e2))
              clear e2 hin
              go_wp2
              go_loopw [32] (fun i wr => ∃ j : Nat, j ≤ ps.length ∧ i = .int .i64 j ∧ Hid (Ext w17 wr)) (fun i _ => ps.length - (intOf i).toNat)
              case atStart => exact ⟨0, Nat.zero_le _, rfl, Lib.hid (Ext.refl _)⟩
              case round =>
                obtain ⟨j, hj, rfl, hE⟩ := hrel
                by_cases hjl : j < ps.length
                · have hjz : (j : Int) < (ps.length : Int) := by omega
                  have hk2 : j < zs.length := by rw [HZL.out]; exact hjl
                  obtain ⟨b3, o3, rfl, _⟩ := int_at H3.out hjl
                  obtain ⟨b7, o7, rfl, _⟩ := int_at H7.out hk2
                  have hc3 : ∀ W, Ext wr W → W.cell? ⟨b3, o3 + j, none⟩ = some (.int .i64 ps[j]) := fun W hW => by
                    obtain ⟨b', o', e, hc⟩ := int_at (Held.ext H3.out (hE.out.trans hW)) hjl
                    injection e with e; injection e with e1 e2
                    rw [e1, e2]
                    exact hc
                  have hc7 : ∀ W, Ext wr W → W.cell? ⟨b7, o7 + j, none⟩ = some (.int .i64 (ps[j] + off)) := fun W hW => by
                    obtain ⟨b', o', e, hc⟩ := int_at (Held.ext H7.out (hE.out.trans hW)) hk2
                    injection e with e; injection e with e1 e2
                    rw [e1, e2, hc]
                    congr 2
                    have hg : zs[j]? = some (ps[j] + off) := by
                      rw [HZS.out, List.getElem?_map, List.getElem?_eq_getElem hjl]
                      rfl
                    rw [List.getElem?_eq_getElem hk2] at hg
                    exact Option.some.inj hg
                  have hpb : 0 ≤ ps[j] ∧ ps[j] ≤ 501 := by
                    have hm : ps[j] ∈ atsOf cs ms kk := by rw [HPS.out]; exact List.getElem_mem hjl
                    unfold atsOf at hm
                    obtain ⟨i, hi, _, e⟩ := (mem_nums _ _ _).1 hm
                    omega
                  obtain ⟨v, hv⟩ : ∃ v, ps[j] = v := ⟨_, rfl⟩
                  simp only [hv] at hc3 hc7
                  rw [hv] at hpb
                  have hoff := HOFF.out
                  clear hv
                  go_upto_region 38 with fail
                  refine mv38_wp (b1 := b3) (o1 := o3) (m1 := ps.length) (k1 := c3) (b2 := b7) (o2 := o7) (m2 := ps.length) (k2 := c7) (jj := j) (u := v + off) (x := v) (x1 := v + off) (off := off) (r := false) rfl rfl rfl rfl rfl hjl hc7 hjl hc3 (wrap_in _ (by omega)) (by simp) ?_
                  intro W18 e2
                  have hdr : mv38Reg.toList.drop 11 = [] := List.drop_eq_nil_of_le (by rw [Array.length_toList]; exact Nat.le_of_eq (by kernel_rfl))
                  rw [hdr]
                  simp only [wpList, puts, List.foldl_cons, List.foldl_nil, Act.put, List.setIfInBounds_toArray, List.set_cons_succ, List.set_cons_zero]
                  have HE18 := Lib.hid (hE.out.trans e2)
                  clear e2 hdr hc3 hc7 hE hpb hoff
                  go_wp2
                  go_roundw
                  case measure => simp [intOf]; omega
                  case rel => exact ⟨j + 1, by omega, by go_num, HE18⟩
                · have hjz : ¬ (j : Int) < (ps.length : Int) := by omega
                  have HE19 := Lib.hid (HE.out.trans hE.out)
                  clear hE
                  go_wp2_with fail
                  refine (works_any _).mono ?_
                  rintro e w19 ⟨rfl, e2⟩
                  have HE20 := Lib.hid (HE19.out.trans e2)
                  clear e2
                  go_wp2
                  go_ret
                  exact ⟨rfl, HE20.out⟩
            · rw [decide_eq_false h0z] at h39
              clear h0z
              go_wp2_with (fail)
              refine h39.mono ?_
              rintro e w12 ⟨rfl, e2⟩
              have HE19 := Lib.hid (HE.out.trans e2)
              clear e2 h39 q0 q1
              go_wp2_with fail
              refine (works_any _).mono ?_
              rintro e w13 ⟨rfl, e2⟩
              have HE20 := Lib.hid (HE19.out.trans e2)
              clear e2
              go_wp2
              go_ret
              exact ⟨rfl, HE20.out⟩
  · rw [decide_eq_false h0] at h39
    clear h0
    go_wp2_with (fail)
    refine h39.mono ?_
    rintro e w1 ⟨rfl, e1⟩
    have HE := Lib.hid (HE.out.trans e1)
    clear e1 h39 q0 q1
    go_wp2_with fail
    refine (works_any _).mono ?_
    rintro e w2 ⟨rfl, e2⟩
    have HE := Lib.hid (HE.out.trans e2)
    clear e2
    go_wp2
    go_ret
    exact ⟨rfl, HE.out⟩
end Go.Proofs.Ytlaakmgdbhabfaa
