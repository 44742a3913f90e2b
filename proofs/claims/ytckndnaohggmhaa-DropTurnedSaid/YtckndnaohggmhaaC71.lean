/- Texts of the package drop, joined: TurnPure, TurnOps, TurnRegs. -/
import Derived.Test.YtckndnaohggmhaaC6
import Derived.Test.YtckndnaohggmhaaC59
import Derived.Test.YtckndnaohggmhaaC72
/- DropTurned: what turning a bath round, and making it greater, does to sizes, kinds and firsts: plain mathematics. -/
namespace Go.Proofs.Ytckndnaohggmhaa

/-- A spot seen from the other wall; the other wall for a wall; a spot, and a drop, in greater measures. -/
def mirS (Wd : Int) (s : Int × Int) : Int × Int := (Wd - s.1, s.2)
def wallOf (p : Int) : Int := if p < 0 then -3 - p else p
def greatS (t : Int) (s : Int × Int) : Int × Int := (t * s.1, t * s.2)
def greatD (t : Int) (d : Int × Int × Int) : Int × Int × Int := (d.1, t * t * d.2.1, t * t * d.2.2)

theorem map_getD {α β : Type} (f : α → β) (l : List α) (x : α) (y : β) {k : Nat} (h : k < l.length) : (l.map f).getD k y = f (l.getD k x) := by
  simp [List.getElem?_eq_getElem h]
theorem findIdx_of {α : Type} (p : α → Bool) : ∀ l : List α, l.findIdx p = (l.map p).findIdx id
  | [] => rfl
  | x :: l => by
    rw [List.map_cons, List.findIdx_cons, List.findIdx_cons, findIdx_of p l]
    rfl

section
variable {Wd : Int} {ss : List (Int × Int)} {ds : List (Int × Int × Int)}

theorem meetB_mir_lt (sel : Nat → Int) {one two : Int} (h1 : -2 ≤ one) (h2 : two < ss.length) (hlt : one < two) : meetB Wd (ss.map (mirS Wd)) sel (wallOf one) (wallOf two) = meetB Wd ss sel one two := by
  by_cases hb : two < 0
  · have : one = -2 := by omega
    have : two = -1 := by omega
    subst one two
    rfl
  · obtain ⟨b, rfl⟩ := Int.eq_ofNat_of_zero_le (by omega : 0 ≤ two)
    have eb : wallOf (b : Int) = b := if_neg (by omega)
    have gb := map_getD (mirS Wd) ss (0, 0) (0, 0) (k := b) (by omega)
    by_cases ha : one < 0
    · by_cases hl : one = -1
      · subst hl
        rw [eb, show wallOf (-1) = -2 from rfl, meetB_left, meetB_right, gb]
        simp only [mirS, Int.sub_sub_self]
      · obtain rfl : one = -2 := by omega
        rw [eb, show wallOf (-2) = -1 from rfl, meetB_left, meetB_right, gb]
        exact decide_eq_decide.2 (by simp only [mirS])
    · obtain ⟨a, rfl⟩ := Int.eq_ofNat_of_zero_le (by omega : 0 ≤ one)
      have ea : wallOf (a : Int) = a := if_neg (by omega)
      have ga := map_getD (mirS Wd) ss (0, 0) (0, 0) (k := a) (by omega)
      rw [ea, eb, meetB_spots _ _ _ _ _ (by omega), meetB_spots _ _ _ _ _ (by omega), ga, gb]
      simp only [mirS]
      rw [show Wd - (ss.getD a (0, 0)).1 - (Wd - (ss.getD b (0, 0)).1) = -((ss.getD a (0, 0)).1 - (ss.getD b (0, 0)).1) from by omega, Int.neg_mul_neg]
theorem meetB_mir (sel : Nat → Int) {one two : Int} (hne : one ≠ two) (h1 : -2 ≤ one) (h1' : one < ss.length) (h2 : -2 ≤ two) (h2' : two < ss.length) : meetB Wd (ss.map (mirS Wd)) sel (wallOf one) (wallOf two) = meetB Wd ss sel one two := by
  rcases Int.lt_or_gt_of_ne hne with h | h
  · exact meetB_mir_lt sel h1 h2' h
  · rw [meetB_comm, meetB_comm Wd ss]
    exact meetB_mir_lt sel h2 h1' h

theorem mmmc (a b c d : Int) : a * b * (c * d) = a * c * (b * d) := by
  rw [Int.mul_assoc, Int.mul_assoc, Int.mul_left_comm b]
theorem sq_great (t x y : Int) : t * x * (t * y) = t * t * (x * y) := mmmc t x t y
theorem tt_pos {t : Int} (h : 1 ≤ t) : 0 < t * t := Int.mul_pos (by omega) (by omega)
theorem le_great {t : Int} (h : 1 ≤ t) (x y : Int) : t * t * x ≤ t * t * y ↔ x ≤ y := ⟨fun e => Int.le_of_mul_le_mul_left e (tt_pos h), fun e => Int.mul_le_mul_of_nonneg_left e (Int.le_of_lt (tt_pos h))⟩
theorem reachB_great {t : Int} (h : 1 ≤ t) (a c d : Int) : reachB (t * t * a) (t * t * c) (t * t * d) = reachB a c d := by
  have hp := tt_pos h
  have hz : ∀ x, t * t * x = 0 ↔ x = 0 := fun x => ⟨fun e => by
    rcases Int.mul_eq_zero.1 e with e | e
    · omega
    · exact e, fun e => by rw [e]; simp⟩
  have e1 : t * t * d - t * t * a - t * t * c = t * t * (d - a - c) := by rw [Int.mul_sub, Int.mul_sub]
  have e2 : t * t * d - t * t * a - t * t * c ≤ 0 ↔ d - a - c ≤ 0 := by
    have := le_great h (d - a - c) 0
    rwa [Int.mul_zero, ← e1] at this
  have e3 : (t * t * d - t * t * a - t * t * c) * (t * t * d - t * t * a - t * t * c) ≤ 4 * (t * t * a) * (t * t * c) ↔ (d - a - c) * (d - a - c) ≤ 4 * a * c := by
    rw [e1, mmmc (t * t) (d - a - c) (t * t) (d - a - c), Int.mul_left_comm 4 (t * t) a, mmmc (t * t) (4 * a) (t * t) c, Int.mul_assoc (t * t) (t * t) ((d - a - c) * (d - a - c)), Int.mul_assoc (t * t) (t * t) (4 * a * c), le_great h, le_great h]
  unfold reachB
  by_cases h0 : a = 0 ∨ c = 0
  · rw [if_pos h0, if_pos (h0.imp (hz a).2 (hz c).2)]
  · rw [if_neg h0, if_neg (fun e => h0 (e.imp (hz a).1 (hz c).1)), decide_eq_decide.2 e2, decide_eq_decide.2 e3]

theorem meetB_great_lt {t : Int} (h : 1 ≤ t) (sel sel' : Nat → Int) (hs : ∀ i, sel' i = t * t * sel i) {one two : Int} (h1 : -2 ≤ one) (h2 : two < ss.length) (hlt : one < two) : meetB (t * Wd) (ss.map (greatS t)) sel' one two = meetB Wd ss sel one two := by
  by_cases hb : two < 0
  · rw [meetB_walls _ _ _ _ _ hlt hb, meetB_walls _ _ _ _ _ hlt hb]
  · obtain ⟨b, rfl⟩ := Int.eq_ofNat_of_zero_le (by omega : 0 ≤ two)
    have gb := map_getD (greatS t) ss (0, 0) (0, 0) (k := b) (by omega)
    by_cases ha : one < 0
    · by_cases hl : one = -1
      · subst hl
        rw [meetB_left, meetB_left, gb, hs]
        refine decide_eq_decide.2 ?_
        simp only [greatS]
        rw [sq_great, le_great h]
      · obtain rfl : one = -2 := by omega
        rw [meetB_right, meetB_right, gb, hs]
        refine decide_eq_decide.2 ?_
        simp only [greatS]
        rw [← Int.mul_sub, sq_great, le_great h]
    · obtain ⟨a, rfl⟩ := Int.eq_ofNat_of_zero_le (by omega : 0 ≤ one)
      have ga := map_getD (greatS t) ss (0, 0) (0, 0) (k := a) (by omega)
      rw [meetB_spots _ _ _ _ _ (by omega), meetB_spots _ _ _ _ _ (by omega), ga, gb, hs, hs]
      simp only [greatS]
      rw [← Int.mul_sub, ← Int.mul_sub, sq_great, sq_great, ← Int.mul_add, reachB_great h]
theorem meetB_great {t : Int} (h : 1 ≤ t) (sel sel' : Nat → Int) (hs : ∀ i, sel' i = t * t * sel i) {one two : Int} (hne : one ≠ two) (h1 : -2 ≤ one) (h1' : one < ss.length) (h2 : -2 ≤ two) (h2' : two < ss.length) : meetB (t * Wd) (ss.map (greatS t)) sel' one two = meetB Wd ss sel one two := by
  rcases Int.lt_or_gt_of_ne hne with e | e
  · exact meetB_great_lt h sel sel' hs h1 h2' e
  · rw [meetB_comm, meetB_comm Wd ss]
    exact meetB_great_lt h sel sel' hs h2 h1' e

theorem foldl_great (t : Int) (i : Nat) : ∀ (ds : List (Int × Int × Int)) (p : Int × Int), (ds.map (greatD t)).foldl (addTo i) (t * t * p.1, t * t * p.2) = (t * t * (ds.foldl (addTo i) p).1, t * t * (ds.foldl (addTo i) p).2)
  | [], p => rfl
  | d :: ds, p => by
    have e : addTo i (t * t * p.1, t * t * p.2) (greatD t d) = (t * t * (addTo i p d).1, t * t * (addTo i p d).2) := by
      unfold addTo greatD
      split
      · simp only [Int.mul_add]
      · rfl
    rw [List.map_cons, List.foldl_cons, List.foldl_cons, e]
    exact foldl_great t i ds (addTo i p d)
theorem sizes_great (t : Int) (ds : List (Int × Int × Int)) (i : Nat) : sizes (ds.map (greatD t)) i = (t * t * (sizes ds i).1, t * t * (sizes ds i).2) := by
  have := foldl_great t i ds (0, 0)
  simpa [sizes] using this

/-- The kinds stay. -/
theorem kind_mir (sz : Nat → Int × Int) {one two : Int} (hne : one ≠ two) (h1 : -2 ≤ one) (h1' : one < ss.length) (h2 : -2 ≤ two) (h2' : two < ss.length) : kindOf Wd (ss.map (mirS Wd)) sz (wallOf one) (wallOf two) = kindOf Wd ss sz one two := by
  unfold kindOf
  rw [meetB_mir _ hne h1 h1' h2 h2', meetB_mir _ hne h1 h1' h2 h2']
theorem kind_great {t : Int} (h : 1 ≤ t) (ds : List (Int × Int × Int)) {one two : Int} (hne : one ≠ two) (h1 : -2 ≤ one) (h1' : one < ss.length) (h2 : -2 ≤ two) (h2' : two < ss.length) : kindOf (t * Wd) (ss.map (greatS t)) (sizes (ds.map (greatD t))) one two = kindOf Wd ss (sizes ds) one two := by
  unfold kindOf
  rw [meetB_great h (fun i => (sizes ds i).1) (fun i => (sizes (ds.map (greatD t)) i).1) (fun i => by rw [sizes_great]) hne h1 h1' h2 h2',
    meetB_great h (fun i => (sizes ds i).2) (fun i => (sizes (ds.map (greatD t)) i).2) (fun i => by rw [sizes_great]) hne h1 h1' h2 h2']

theorem firsts_eq {W1 W2 : Int} {s1 s2 : List (Int × Int)} {d1 d2 : List (Int × Int × Int)} {o1 t1 o2 t2 : Int} (hl : d1.length = d2.length) (h1 : forErr W1 s1 d1 o1 t1 = 0) (h2 : forErr W2 s2 d2 o2 t2 = 0)
    (hlo : ∀ k, meetB W1 s1 (fun i => (sizes (d1.take k) i).1) o1 t1 = meetB W2 s2 (fun i => (sizes (d2.take k) i).1) o2 t2) (hhi : ∀ k, meetB W1 s1 (fun i => (sizes (d1.take k) i).2) o1 t1 = meetB W2 s2 (fun i => (sizes (d2.take k) i).2) o2 t2) :
    firstAns W1 s1 d1 o1 t1 = firstAns W2 s2 d2 o2 t2 := by
  have hk : kindOf W1 s1 (sizes d1) o1 t1 = kindOf W2 s2 (sizes d2) o2 t2 := by
    have a := hlo d1.length
    have b := hhi d1.length
    rw [List.take_length, hl, List.take_length] at a b
    unfold kindOf
    rw [a, b]
  unfold firstAns
  rw [if_pos h1, if_pos h2, hk, hl]
  have e1 : (prefixes d1 d2.length).map (fun z => meetB W1 s1 (fun i => (z i).2) o1 t1) = (prefixes d2 d2.length).map (fun z => meetB W2 s2 (fun i => (z i).2) o2 t2) := by
    unfold prefixes
    rw [List.map_map, List.map_map]
    exact List.map_congr_left fun j _ => hhi (j + 1)
  have e2 : (prefixes d1 d2.length).map (fun z => meetB W1 s1 (fun i => (z i).1) o1 t1) = (prefixes d2 d2.length).map (fun z => meetB W2 s2 (fun i => (z i).1) o2 t2) := by
    unfold prefixes
    rw [List.map_map, List.map_map]
    exact List.map_congr_left fun j _ => hlo (j + 1)
  have f1 : (prefixes d1 d2.length).findIdx (fun z => meetB W1 s1 (fun i => (z i).2) o1 t1) = (prefixes d2 d2.length).findIdx (fun z => meetB W2 s2 (fun i => (z i).2) o2 t2) := by
    rw [findIdx_of (fun z : Nat → Int × Int => meetB W1 s1 (fun i => (z i).2) o1 t1), findIdx_of (fun z : Nat → Int × Int => meetB W2 s2 (fun i => (z i).2) o2 t2), e1]
  have f2 : (prefixes d1 d2.length).findIdx (fun z => meetB W1 s1 (fun i => (z i).1) o1 t1) = (prefixes d2 d2.length).findIdx (fun z => meetB W2 s2 (fun i => (z i).1) o2 t2) := by
    rw [findIdx_of (fun z : Nat → Int × Int => meetB W1 s1 (fun i => (z i).1) o1 t1), findIdx_of (fun z : Nat → Int × Int => meetB W2 s2 (fun i => (z i).1) o2 t2), e2]
  rw [f1, f2]

/-- A bath that is turned round is valid; First stays. -/
theorem mir_ok (h0 : bathErr Wd ss ds = 0) : bathErr Wd (ss.map (mirS Wd)) ds = 0 := by
  obtain ⟨a, b, c, d, e⟩ := bath_ok h0
  have c' : (ss.map (mirS Wd)).all (spotOk Wd) = true := by
    rw [List.all_eq_true] at c ⊢
    intro x hx
    obtain ⟨s, hs, rfl⟩ := List.mem_map.1 hx
    have := c s hs
    simp [spotOk, inside, mirS] at this ⊢
    omega
  have d' : (ss.map (mirS Wd)).Nodup := by
    unfold List.Nodup at d ⊢
    rw [List.pairwise_map]
    refine d.imp fun {x y} h e => h ?_
    have e1 := congrArg Prod.fst e
    have e2 := congrArg Prod.snd e
    simp only [mirS] at e1 e2
    exact Prod.ext (by omega) e2
  rw [bathErr_more a, if_pos ⟨by rw [List.length_map]; exact b.1, b.2⟩, if_pos c', if_pos d', if_pos (by rw [List.length_map]; exact e)]
theorem wall_bd {n : Nat} {p : Int} (h1 : -2 ≤ p) (h2 : p < n) : -2 ≤ wallOf p ∧ wallOf p < n := by unfold wallOf; split <;> omega
theorem wall_ne {p q : Int} (h1 : -2 ≤ p) (h2 : -2 ≤ q) (h : p ≠ q) : wallOf p ≠ wallOf q := by unfold wallOf; split <;> split <;> omega
theorem mir_for {one two : Int} (he : forErr Wd ss ds one two = 0) : forErr Wd (ss.map (mirS Wd)) ds (wallOf one) (wallOf two) = 0 := by
  obtain ⟨h0, h2, h3, h4⟩ := forErr_ok he
  have w1 := wall_bd (n := ss.length) (p := one) (by omega) (by omega)
  have w2 := wall_bd (n := ss.length) (p := two) (by omega) (by omega)
  unfold forErr
  rw [if_pos (mir_ok h0), if_pos ⟨wall_ne (by omega) (by omega) h2, by simp; omega, by simp; omega⟩]
theorem mir_first {one two : Int} (he : forErr Wd ss ds one two = 0) : firstAns Wd (ss.map (mirS Wd)) ds (wallOf one) (wallOf two) = firstAns Wd ss ds one two := by
  obtain ⟨h0, h2, h3, h4⟩ := forErr_ok he
  exact firsts_eq rfl (mir_for he) he (fun k => meetB_mir _ h2 (by omega) (by omega) (by omega) (by omega)) (fun k => meetB_mir _ h2 (by omega) (by omega) (by omega) (by omega))

theorem great_for {t : Int} {one two : Int} (he : forErr Wd ss ds one two = 0) (h1 : bathErr (t * Wd) (ss.map (greatS t)) (ds.map (greatD t)) = 0) : forErr (t * Wd) (ss.map (greatS t)) (ds.map (greatD t)) one two = 0 := by
  obtain ⟨_, h2, h3, h4⟩ := forErr_ok he
  unfold forErr
  rw [if_pos h1, if_pos ⟨h2, by simp; omega, by simp; omega⟩]
theorem great_first {t : Int} (h : 1 ≤ t) {one two : Int} (he : forErr Wd ss ds one two = 0) (h1 : bathErr (t * Wd) (ss.map (greatS t)) (ds.map (greatD t)) = 0) : firstAns (t * Wd) (ss.map (greatS t)) (ds.map (greatD t)) one two = firstAns Wd ss ds one two := by
  obtain ⟨h0, h2, h3, h4⟩ := forErr_ok he
  refine firsts_eq (by simp) (great_for he h1) he (fun k => ?_) (fun k => ?_)
  · exact meetB_great h _ _ (fun i => by rw [← List.map_take, sizes_great]) h2 (by omega) (by omega) (by omega) (by omega)
  · exact meetB_great h _ _ (fun i => by rw [← List.map_take, sizes_great]) h2 (by omega) (by omega) (by omega) (by omega)
end
end Go.Proofs.Ytckndnaohggmhaa

/- DropTurned: the statements that append to a field of the baths x and y. -/
namespace Go.Proofs.Ytckndnaohggmhaa
open Go.RowKit Go.Shelf

def MixS (k : Nat) (e : TypeId) (cs : Array Value) (V : Nat → Value) (i : Nat) (v : Value) (W : World) : Prop := (i = k → ∃ g, v = .slice (some ⟨g, 0, none⟩) 1 1 ∧ W.heap[g]? = some (.cells cs e (0, 0))) ∧ (i ≠ k → v = V i)
theorem mixS_ext {k : Nat} {e : TypeId} {cs : Array Value} {V : Nat → Value} (i : Nat) (v : Value) (W W' : World) (h : MixS k e cs V i v W) (hb : Below W.heap.size W W') : MixS k e cs V i v W' :=
  ⟨fun e => by obtain ⟨g, h1, h2⟩ := h.1 e; exact ⟨g, h1, row_ext h2 hb⟩, h.2⟩
theorem mix_pure {k : Nat} {e : TypeId} {cs : Array Value} {V : Nat → Value} {i : Nat} {D : Nat → Tmp} {o : Oper} {a : Act} {W : World} {Q : Exit → Act → World → Prop} (hne : i ≠ k)
    (h : (∀ j b, o.guard = some (j, b) → a.eval (.tmp (D j)) = .bool b) ∧ o.wp Try.prog a W (fun a'' W' => ∃ v, a'' = a.put o.dst v ∧ v = V i ∧ Below W.heap.size W W') Q) :
    (∀ j b, o.guard = some (j, b) → a.eval (.tmp (D j)) = .bool b) ∧ o.wp Try.prog a W (fun a'' W' => ∃ v, a'' = a.put o.dst v ∧ MixS k e cs V i v W' ∧ Below W.heap.size W W') Q :=
  ⟨h.1, Oper.wp_mono (fun _ _ ⟨v, h1, h2, h3⟩ => ⟨v, h1, ⟨fun e => absurd e hne, fun _ => h2⟩, h3⟩) h.2⟩
theorem mix_after {k : Nat} {e : TypeId} {cs : Array Value} {V : Nat → Value} {D : Nat → Tmp} {o : Oper} {a : Act} {W : World} (hno : (o.after.any fun e => decide (e.on = k) && Region.binds .any e) = false)
    (haft : ∀ j, (o.after.any fun e => decide (e.on = j) && Region.binds .any e) = true → MixS k e cs V j (a.eval (.tmp (D j))) W) : ∀ j, (o.after.any fun e => decide (e.on = j) && Region.binds .any e) = true → a.eval (.tmp (D j)) = V j := fun j hj =>
  (haft j hj).2 (fun e => by subst e; rw [hno] at hj; cases hj)
theorem info74b : (Try.prog.info? 74).map (fun i => (i.zero, i.size, i.bytes)) = some (some (.agg #[.int .i64 0, .int .i64 0]), 2, 16) := by kernel_rfl

/-- The slots. -/
def t10D (i : Nat) : Tmp := 62 + i
/-- What each operation yields. -/
def t10V (Wd : Int) (A1 : Option Addr) (k c1 : Nat) (p px ps : Nat) (sx sy : Int) (ix : Nat) : Value :=
  match ix with
  | 0 => .pointer (some ⟨px, 1, none⟩)
  | 1 => .slice A1 k c1
  | 2 => .pointer (some ⟨p, 0, none⟩)
  | 3 => .int .i64 Wd
  | 4 => .pointer (some ⟨ps, 0, none⟩)
  | 5 => .int .i64 sx
  | 6 => .int .i64 (Wd - sx)
  | 7 => .pointer (some ⟨ps, 1, none⟩)
  | 8 => .int .i64 sy
  | 9 => .agg #[.int .i64 (Wd - sx), .int .i64 sy]
  | _ => .bool true
noncomputable def t10Reg : Array Oper := (Try.f12.body.bind (regionOf · 10)).getD #[]
def t10Ok (Wd : Int) (A1 : Option Addr) (k c1 : Nat) (p px ps : Nat) (sx sy : Int) (Q : Exit → Act → World → Prop) (a : Act) (W : World) (ix : Nat) (o : Oper) : Prop :=
  (∀ j b, o.guard = some (j, b) → a.eval (.tmp (t10D j)) = .bool b) ∧ o.wp Try.prog a W (fun a'' W' => ∃ v, a'' = a.put o.dst v ∧ v = t10V Wd A1 k c1 p px ps sx sy ix ∧ Below W.heap.size W W') Q

section
variable {Wd : Int} {A1 : Option Addr} {k c1 : Nat} {p px ps : Nat} {sx sy : Int} {Q : Exit → Act → World → Prop} {a : Act} {V W : World} {o : Oper}
theorem t10_op0 (o10 : a.eval (.tmp 10) = .pointer (some ⟨px, 0, none⟩)) (ho : t10Reg[0]? = some o) : t10Ok Wd A1 k c1 p px ps sx sy Q a W 0 o := by
  have hop := op_at ho (·.op) (x := .fieldAddr 25 (.tmp 10) 1) (by kernel_rfl)
  have hgd := op_at ho (·.guard) (x := none) (by kernel_rfl)
  refine ⟨fun j b h => (by rw [hgd] at h; cases h), ?_⟩
  exact specs_value (R := fun v _ => v = t10V Wd A1 k c1 p px ps sx sy 0) (v := .pointer (some ⟨px, 1, none⟩)) (by simp [execOp, hop, go_sem, ev o10]) rfl (Ext.refl W)
theorem t10_op1 (cx : ∀ W, Ext V W → W.cell? ⟨px, 1, none⟩ = some (.slice A1 k c1)) (hB : Ext V W) (haft : ∀ j, (o.after.any fun e => decide (e.on = j) && Region.binds .any e) = true → a.eval (.tmp (t10D j)) = t10V Wd A1 k c1 p px ps sx sy j) (ho : t10Reg[1]? = some o) : t10Ok Wd A1 k c1 p px ps sx sy Q a W 1 o := by
  have hop := op_at ho (·.op) (x := .load 22 (.tmp 62)) (by kernel_rfl)
  have hgd := op_at ho (·.guard) (x := none) (by kernel_rfl)
  have e0 : a.eval (.tmp 62) = .pointer (some ⟨px, 1, none⟩) := haft 0 (op_at ho (fun o => o.after.any fun e => decide (e.on = 0) && Region.binds .any e) (x := true) (by kernel_rfl))
  refine ⟨fun j b h => (by rw [hgd] at h; cases h), ?_⟩
  have cx' := cx W hB
  exact specs_value (R := fun v _ => v = t10V Wd A1 k c1 p px ps sx sy 1) (v := .slice A1 k c1) (by simp [execOp, hop, go_sem, ev e0, cx']) rfl (Ext.refl W)
theorem t10_op2 (o3 : a.eval (.tmp 3) = .pointer (some ⟨p, 0, none⟩)) (ho : t10Reg[2]? = some o) : t10Ok Wd A1 k c1 p px ps sx sy Q a W 2 o := by
  have hop := op_at ho (·.op) (x := .fieldAddr 25 (.tmp 3) 0) (by kernel_rfl)
  have hgd := op_at ho (·.guard) (x := none) (by kernel_rfl)
  refine ⟨fun j b h => (by rw [hgd] at h; cases h), ?_⟩
  exact specs_value (R := fun v _ => v = t10V Wd A1 k c1 p px ps sx sy 2) (v := .pointer (some ⟨p, 0, none⟩)) (by simp [execOp, hop, go_sem, ev o3]) rfl (Ext.refl W)
theorem t10_op3 (cb : ∀ W, Ext V W → W.cell? ⟨p, 0, none⟩ = some (.int .i64 Wd)) (hB : Ext V W) (haft : ∀ j, (o.after.any fun e => decide (e.on = j) && Region.binds .any e) = true → a.eval (.tmp (t10D j)) = t10V Wd A1 k c1 p px ps sx sy j) (ho : t10Reg[3]? = some o) : t10Ok Wd A1 k c1 p px ps sx sy Q a W 3 o := by
  have hop := op_at ho (·.op) (x := .load 2 (.tmp 64)) (by kernel_rfl)
  have hgd := op_at ho (·.guard) (x := none) (by kernel_rfl)
  have e2 : a.eval (.tmp 64) = .pointer (some ⟨p, 0, none⟩) := haft 2 (op_at ho (fun o => o.after.any fun e => decide (e.on = 2) && Region.binds .any e) (x := true) (by kernel_rfl))
  refine ⟨fun j b h => (by rw [hgd] at h; cases h), ?_⟩
  have cb' := cb W hB
  exact specs_value (R := fun v _ => v = t10V Wd A1 k c1 p px ps sx sy 3) (v := .int .i64 Wd) (by simp [execOp, hop, go_sem, ev e2, cb']) rfl (Ext.refl W)
theorem t10_op4 (o13 : a.eval (.tmp 13) = .pointer (some ⟨ps, 0, none⟩)) (ho : t10Reg[4]? = some o) : t10Ok Wd A1 k c1 p px ps sx sy Q a W 4 o := by
  have hop := op_at ho (·.op) (x := .fieldAddr 74 (.tmp 13) 0) (by kernel_rfl)
  have hgd := op_at ho (·.guard) (x := none) (by kernel_rfl)
  refine ⟨fun j b h => (by rw [hgd] at h; cases h), ?_⟩
  exact specs_value (R := fun v _ => v = t10V Wd A1 k c1 p px ps sx sy 4) (v := .pointer (some ⟨ps, 0, none⟩)) (by simp [execOp, hop, go_sem, ev o13]) rfl (Ext.refl W)
theorem t10_op5 (cs0 : ∀ W, Ext V W → W.cell? ⟨ps, 0, none⟩ = some (.int .i64 sx)) (hB : Ext V W) (haft : ∀ j, (o.after.any fun e => decide (e.on = j) && Region.binds .any e) = true → a.eval (.tmp (t10D j)) = t10V Wd A1 k c1 p px ps sx sy j) (ho : t10Reg[5]? = some o) : t10Ok Wd A1 k c1 p px ps sx sy Q a W 5 o := by
  have hop := op_at ho (·.op) (x := .load 2 (.tmp 66)) (by kernel_rfl)
  have hgd := op_at ho (·.guard) (x := none) (by kernel_rfl)
  have e4 : a.eval (.tmp 66) = .pointer (some ⟨ps, 0, none⟩) := haft 4 (op_at ho (fun o => o.after.any fun e => decide (e.on = 4) && Region.binds .any e) (x := true) (by kernel_rfl))
  refine ⟨fun j b h => (by rw [hgd] at h; cases h), ?_⟩
  have cs0' := cs0 W hB
  exact specs_value (R := fun v _ => v = t10V Wd A1 k c1 p px ps sx sy 5) (v := .int .i64 sx) (by simp [execOp, hop, go_sem, ev e4, cs0']) rfl (Ext.refl W)
theorem t10_op6 (w1 : IntKind.i64.wrap (Wd - sx) = Wd - sx) (haft : ∀ j, (o.after.any fun e => decide (e.on = j) && Region.binds .any e) = true → a.eval (.tmp (t10D j)) = t10V Wd A1 k c1 p px ps sx sy j) (ho : t10Reg[6]? = some o) : t10Ok Wd A1 k c1 p px ps sx sy Q a W 6 o := by
  have hop := op_at ho (·.op) (x := .binOp .sub 2 (.tmp 65) (.tmp 67) 2) (by kernel_rfl)
  have hgd := op_at ho (·.guard) (x := none) (by kernel_rfl)
  have e3 : a.eval (.tmp 65) = .int .i64 Wd := haft 3 (op_at ho (fun o => o.after.any fun e => decide (e.on = 3) && Region.binds .any e) (x := true) (by kernel_rfl))
  have e5 : a.eval (.tmp 67) = .int .i64 sx := haft 5 (op_at ho (fun o => o.after.any fun e => decide (e.on = 5) && Region.binds .any e) (x := true) (by kernel_rfl))
  refine ⟨fun j b h => (by rw [hgd] at h; cases h), ?_⟩
  exact specs_value (R := fun v _ => v = t10V Wd A1 k c1 p px ps sx sy 6) (v := .int .i64 (Wd - sx)) (by simp [execOp, hop, go_sem, ev e3, ev e5, w1]) rfl (Ext.refl W)
theorem t10_op7 (o13 : a.eval (.tmp 13) = .pointer (some ⟨ps, 0, none⟩)) (ho : t10Reg[7]? = some o) : t10Ok Wd A1 k c1 p px ps sx sy Q a W 7 o := by
  have hop := op_at ho (·.op) (x := .fieldAddr 74 (.tmp 13) 1) (by kernel_rfl)
  have hgd := op_at ho (·.guard) (x := none) (by kernel_rfl)
  refine ⟨fun j b h => (by rw [hgd] at h; cases h), ?_⟩
  exact specs_value (R := fun v _ => v = t10V Wd A1 k c1 p px ps sx sy 7) (v := .pointer (some ⟨ps, 1, none⟩)) (by simp [execOp, hop, go_sem, ev o13]) rfl (Ext.refl W)
theorem t10_op8 (cs1 : ∀ W, Ext V W → W.cell? ⟨ps, 1, none⟩ = some (.int .i64 sy)) (hB : Ext V W) (haft : ∀ j, (o.after.any fun e => decide (e.on = j) && Region.binds .any e) = true → a.eval (.tmp (t10D j)) = t10V Wd A1 k c1 p px ps sx sy j) (ho : t10Reg[8]? = some o) : t10Ok Wd A1 k c1 p px ps sx sy Q a W 8 o := by
  have hop := op_at ho (·.op) (x := .load 2 (.tmp 69)) (by kernel_rfl)
  have hgd := op_at ho (·.guard) (x := none) (by kernel_rfl)
  have e7 : a.eval (.tmp 69) = .pointer (some ⟨ps, 1, none⟩) := haft 7 (op_at ho (fun o => o.after.any fun e => decide (e.on = 7) && Region.binds .any e) (x := true) (by kernel_rfl))
  refine ⟨fun j b h => (by rw [hgd] at h; cases h), ?_⟩
  have cs1' := cs1 W hB
  exact specs_value (R := fun v _ => v = t10V Wd A1 k c1 p px ps sx sy 8) (v := .int .i64 sy) (by simp [execOp, hop, go_sem, ev e7, cs1']) rfl (Ext.refl W)
theorem t10_op9 (k51 : ∀ W, Ext V W → Calls Try.prog 51 #[.int .i64 (Wd - sx), .int .i64 (sy)] W fun e w' => e = .returned (.agg #[.int .i64 (Wd - sx), .int .i64 (sy)]) ∧ Below W.heap.size W w') (hB : Ext V W) (haft : ∀ j, (o.after.any fun e => decide (e.on = j) && Region.binds .any e) = true → a.eval (.tmp (t10D j)) = t10V Wd A1 k c1 p px ps sx sy j) (ho : t10Reg[9]? = some o) : t10Ok Wd A1 k c1 p px ps sx sy Q a W 9 o := by
  have hop := op_at ho (·.op) (x := .call { callee := .value (.func 51), args := #[.tmp 68, .tmp 70], argTypes := #[2, 2] }) (by kernel_rfl)
  have hgd := op_at ho (·.guard) (x := none) (by kernel_rfl)
  have e6 : a.eval (.tmp 68) = .int .i64 (Wd - sx) := haft 6 (op_at ho (fun o => o.after.any fun e => decide (e.on = 6) && Region.binds .any e) (x := true) (by kernel_rfl))
  have e8 : a.eval (.tmp 70) = .int .i64 sy := haft 8 (op_at ho (fun o => o.after.any fun e => decide (e.on = 8) && Region.binds .any e) (x := true) (by kernel_rfl))
  refine ⟨fun j b h => (by rw [hgd] at h; cases h), ?_⟩
  exact specs_call (R := fun v _ => v = t10V Wd A1 k c1 p px ps sx sy 9) (f := 51) (args := #[.int .i64 (Wd - sx), .int .i64 sy]) (by simp [execOp, hop, go_sem, ev e6, ev e8]) ((k51 W hB).mono fun e w' h => ⟨_, h.1, rfl, h.2⟩)
end

section
variable {Wd : Int} {A1 : Option Addr} {k c1 : Nat} {p px ps : Nat} {sx sy : Int}
theorem t10_build {Q : Exit → Act → World → Prop} {a : Act} {W : World} {o : Oper} (haft : ∀ j, (o.after.any fun e => decide (e.on = j) && Region.binds .any e) = true → MixS 10 74 #[.int .i64 (Wd - sx), .int .i64 sy] (t10V Wd A1 k c1 p px ps sx sy) j (a.eval (.tmp (t10D j))) W) (ho : t10Reg[10]? = some o) :
    (∀ j b, o.guard = some (j, b) → a.eval (.tmp (t10D j)) = .bool b) ∧ o.wp Try.prog a W (fun a'' W' => ∃ v, a'' = a.put o.dst v ∧ MixS 10 74 #[.int .i64 (Wd - sx), .int .i64 sy] (t10V Wd A1 k c1 p px ps sx sy) 10 v W' ∧ Below W.heap.size W W') Q := by
  have hop := op_at ho (·.op) (x := .buildSlice 22 1 #[(0, .tmp 71)]) (by kernel_rfl)
  have hgd := op_at ho (·.guard) (x := none) (by kernel_rfl)
  refine ⟨fun j b h => (by rw [hgd] at h; cases h), ?_⟩
  have e4 : a.eval (.tmp 71) = .agg #[.int .i64 (Wd - sx), .int .i64 sy] := (haft 9 (op_at ho (fun o => o.after.any fun e => decide (e.on = 9) && Region.binds .any e) (x := true) (by kernel_rfl))).2 (by decide)
  exact specs_value (R := MixS 10 74 #[.int .i64 (Wd - sx), .int .i64 sy] (t10V Wd A1 k c1 p px ps sx sy) 10) (v := .slice (some ⟨W.heap.size, 0, none⟩) 1 1) (W' := W.alloc (.cells #[.int .i64 (Wd - sx), .int .i64 sy] 74)) (by simp [execOp, hop, go_sem, ev e4]) ⟨fun _ => ⟨_, rfl, row_last _ _ _ rfl⟩, fun h => absurd rfl h⟩ ((Below.refl _ W).alloc (Nat.le_refl _) _)

set_option maxRecDepth 100000 in
set_option maxHeartbeats 4000000 in
/-- The statement of region 10. -/
theorem t10_wp {Q : Exit → Act → World → Prop} {a : Act} {V wb : World} {xs : List (Int × Int)} {c0 u : Value} (hlen : a.tmps.size = 214) (o3 : a.eval (.tmp 3) = .pointer (some ⟨p, 0, none⟩)) (o10 : a.eval (.tmp 10) = .pointer (some ⟨px, 0, none⟩)) (o13 : a.eval (.tmp 13) = .pointer (some ⟨ps, 0, none⟩)) {b1 b2 : Value} (rb : V.heap[p]? = some (.cells #[.int .i64 Wd, b1, b2] 25 (0, 0))) (rx : V.heap[px]? = some (.cells #[c0, .slice A1 k c1, u] 25 (0, 0))) (rs : V.heap[ps]? = some (.cells #[.int .i64 sx, .int .i64 sy] 74 (0, 0))) (w1 : IntKind.i64.wrap (Wd - sx) = Wd - sx)
    (hown : V.ownsRow wb.heap.size 74 2 (.slice A1 k c1) k (xs.flatMap encS)) (hk : k ≤ 1000) (hE : Ext wb V) (hbp : wb.heap.size ≤ px)
    (K : ∀ g5 g cap V', V'.ownsRow wb.heap.size 74 2 (.slice (some ⟨g, 0, none⟩) (k + 1) cap) (k + 1) ((xs ++ [(Wd - sx, sy)]).flatMap encS) → V'.heap[px]? = some (.cells #[c0, .slice (some ⟨g, 0, none⟩) (k + 1) cap, u] 25 (0, 0)) →
      (∀ b, b < V.heap.size → b ≠ px → some b ≠ (Value.slice A1 k c1).ownBlock → V'.heap[b]? = V.heap[b]?) → ((Value.slice A1 k c1).ownBlock = some g ∨ V.heap.size ≤ g) → V.heap.size ≤ V'.heap.size → Ext wb V' →
      Q .normal (puts a [(62, .pointer (some ⟨px, 1, none⟩)), (63, .slice A1 k c1), (64, .pointer (some ⟨p, 0, none⟩)), (65, .int .i64 Wd), (66, .pointer (some ⟨ps, 0, none⟩)), (67, .int .i64 sx), (68, .int .i64 (Wd - sx)), (69, .pointer (some ⟨ps, 1, none⟩)), (70, .int .i64 sy), (71, .agg #[.int .i64 (Wd - sx), .int .i64 sy]), (72, .slice (some ⟨g5, 0, none⟩) 1 1), (73, .slice (some ⟨g, 0, none⟩) (k + 1) cap), (74, .pointer (some ⟨px, 1, none⟩))]) V') :
    (Code.region 10 t10Reg true).wp Try.prog Q a V := by
  have cx : ∀ W, Ext V W → W.cell? ⟨px, 1, none⟩ = some (.slice A1 k c1) := fun W h => cell_of_row _ _ _ _ _ _ (row_ext rx h)
  have cb : ∀ W, Ext V W → W.cell? ⟨p, 0, none⟩ = some (.int .i64 Wd) := fun W h => cell_of_row _ _ _ _ _ _ (row_ext rb h)
  have cs0 : ∀ W, Ext V W → W.cell? ⟨ps, 0, none⟩ = some (.int .i64 sx) := fun W h => cell_of_row _ _ _ _ _ _ (row_ext rs h)
  have cs1 : ∀ W, Ext V W → W.cell? ⟨ps, 1, none⟩ = some (.int .i64 sy) := fun W h => cell_of_row _ _ _ _ _ _ (row_ext rs h)
  have k51 := fun (W : World) (_ : Ext V W) => spot_any (Wd - sx) sy W
  refine wp_region_specs_sink (ops := t10Reg) 11 (MixS 10 74 #[.int .i64 (Wd - sx), .int .i64 sy] (t10V Wd A1 k c1 p px ps sx sy)) (Ext V) (by kernel_rfl) (by rw [hlen]; kernel_rfl) (by kernel_rfl) ⟨rfl, rfl, rfl, Nat.le_refl _, fun _ _ => rfl⟩ (fun _ _ h e => h.trans e) mixS_ext t10D (by kernel_rfl) ?_ ?_
  · intro i o hi ho a W hB hsz hold haft
    match i, hi with
    | 0, _ => exact mix_pure (by decide) (t10_op0 ((hold 10 (by kernel_rfl)).trans o10) ho)
    | 1, _ => exact mix_pure (by decide) (t10_op1 cx hB (mix_after (op_at ho (fun o => o.after.any fun e => decide (e.on = 10) && Region.binds .any e) (x := false) (by kernel_rfl)) haft) ho)
    | 2, _ => exact mix_pure (by decide) (t10_op2 ((hold 3 (by kernel_rfl)).trans o3) ho)
    | 3, _ => exact mix_pure (by decide) (t10_op3 cb hB (mix_after (op_at ho (fun o => o.after.any fun e => decide (e.on = 10) && Region.binds .any e) (x := false) (by kernel_rfl)) haft) ho)
    | 4, _ => exact mix_pure (by decide) (t10_op4 ((hold 13 (by kernel_rfl)).trans o13) ho)
    | 5, _ => exact mix_pure (by decide) (t10_op5 cs0 hB (mix_after (op_at ho (fun o => o.after.any fun e => decide (e.on = 10) && Region.binds .any e) (x := false) (by kernel_rfl)) haft) ho)
    | 6, _ => exact mix_pure (by decide) (t10_op6 w1 (mix_after (op_at ho (fun o => o.after.any fun e => decide (e.on = 10) && Region.binds .any e) (x := false) (by kernel_rfl)) haft) ho)
    | 7, _ => exact mix_pure (by decide) (t10_op7 ((hold 13 (by kernel_rfl)).trans o13) ho)
    | 8, _ => exact mix_pure (by decide) (t10_op8 cs1 hB (mix_after (op_at ho (fun o => o.after.any fun e => decide (e.on = 10) && Region.binds .any e) (x := false) (by kernel_rfl)) haft) ho)
    | 9, _ => exact mix_pure (by decide) (t10_op9 k51 hB (mix_after (op_at ho (fun o => o.after.any fun e => decide (e.on = 10) && Region.binds .any e) (x := false) (by kernel_rfl)) haft) ho)
    | 10, _ => exact t10_build haft ho
    | m + 11, h => exact absurd h (by omega)
  · intro a1 W hB hsz hdf hold hS
    obtain ⟨g5, e5, hnew⟩ := (hS 10 (by omega)).1 rfl
    have hlen1 : a1.tmps.size = 214 := hsz.trans hlen
    have hall : ∀ z, z ∈ ([(62, .pointer (some ⟨px, 1, none⟩)), (63, .slice A1 k c1), (64, .pointer (some ⟨p, 0, none⟩)), (65, .int .i64 Wd), (66, .pointer (some ⟨ps, 0, none⟩)), (67, .int .i64 sx), (68, .int .i64 (Wd - sx)), (69, .pointer (some ⟨ps, 1, none⟩)), (70, .int .i64 sy), (71, .agg #[.int .i64 (Wd - sx), .int .i64 sy]), (72, .slice (some ⟨g5, 0, none⟩) 1 1)] : List (Tmp × Value)) → z.1 < a.tmps.size ∧ a1.eval (.tmp z.1) = z.2 := by
      intro z hz
      rw [hlen]
      simp only [List.mem_cons, List.not_mem_nil, or_false] at hz
      rcases hz with rfl | rfl | rfl | rfl | rfl | rfl | rfl | rfl | rfl | rfl | rfl
      · exact ⟨(show (62 : Nat) < 214 by omega), (hS 0 (by omega)).2 (by decide)⟩
      · exact ⟨(show (63 : Nat) < 214 by omega), (hS 1 (by omega)).2 (by decide)⟩
      · exact ⟨(show (64 : Nat) < 214 by omega), (hS 2 (by omega)).2 (by decide)⟩
      · exact ⟨(show (65 : Nat) < 214 by omega), (hS 3 (by omega)).2 (by decide)⟩
      · exact ⟨(show (66 : Nat) < 214 by omega), (hS 4 (by omega)).2 (by decide)⟩
      · exact ⟨(show (67 : Nat) < 214 by omega), (hS 5 (by omega)).2 (by decide)⟩
      · exact ⟨(show (68 : Nat) < 214 by omega), (hS 6 (by omega)).2 (by decide)⟩
      · exact ⟨(show (69 : Nat) < 214 by omega), (hS 7 (by omega)).2 (by decide)⟩
      · exact ⟨(show (70 : Nat) < 214 by omega), (hS 8 (by omega)).2 (by decide)⟩
      · exact ⟨(show (71 : Nat) < 214 by omega), (hS 9 (by omega)).2 (by decide)⟩
      · exact ⟨(show (72 : Nat) < 214 by omega), e5⟩
    have ha := act_puts hsz hdf hall (fun t ht => hold t (all_ne_of (l := [(62, .pointer (some ⟨px, 1, none⟩)), (63, .slice A1 k c1), (64, .pointer (some ⟨p, 0, none⟩)), (65, .int .i64 Wd), (66, .pointer (some ⟨ps, 0, none⟩)), (67, .int .i64 sx), (68, .int .i64 (Wd - sx)), (69, .pointer (some ⟨ps, 1, none⟩)), (70, .int .i64 sy), (71, .agg #[.int .i64 (Wd - sx), .int .i64 sy]), (72, .slice (some ⟨g5, 0, none⟩) 1 1)]) (by kernel_rfl) ht))
    obtain ⟨o1, o2, o3, hdr, h1, h2, h3⟩ : ∃ o1 o2 o3, t10Reg.toList.drop 11 = [o1, o2, o3] ∧ t10Reg[11]? = some o1 ∧ t10Reg[12]? = some o2 ∧ t10Reg[13]? = some o3 := by
      have hs : t10Reg.size = 14 := by kernel_rfl
      refine ⟨t10Reg[11], t10Reg[12], t10Reg[13], ?_, Array.getElem?_eq_getElem _, Array.getElem?_eq_getElem _, Array.getElem?_eq_getElem _⟩
      rw [List.drop_eq_getElem_cons (by simp [hs]), List.drop_eq_getElem_cons (by simp [hs]), List.drop_eq_getElem_cons (by simp [hs]), List.drop_eq_nil_of_le (by simp [hs])]
      simp
    rw [hdr]
    obtain ⟨i0, hi0, hz0, hz1, hz2⟩ := info_parts info74b
    refine wp_tail_field (op_at h1 (·.guard) (x := none) (by kernel_rfl)) (op_at h2 (·.guard) (x := none) (by kernel_rfl)) (op_at h3 (·.guard) (x := none) (by kernel_rfl))
      (op_at h1 (·.op) (x := .call { callee := .builtin .append, args := #[.tmp 63, .tmp 72], argTypes := #[22, 22] }) (by kernel_rfl)) (op_at h2 (·.op) (x := .fieldAddr 25 (.tmp 10) 1) (by kernel_rfl)) (op_at h3 (·.op) (x := .store 22 (.tmp 74) (.tmp 73)) (by kernel_rfl))
      (op_at h1 (·.dst) (x := some 73) (by kernel_rfl)) (op_at h2 (·.dst) (x := some 74) (by kernel_rfl)) (op_at h3 (·.dst) (x := none) (by kernel_rfl)) (by rw [hlen1]; decide) (by rw [hlen1]; decide) (by decide) (by decide) (by decide) (by decide) Try.underlying22 hi0 hz0 hz1 hz2 rfl (by decide)
      ((hS 1 (by omega)).2 (by decide)) (owns_ext hown hB) e5 hnew rfl (by simp [Value.oneCell']) hk (by decide) (hE.trans hB) ((hold 10 (by kernel_rfl)).trans o10) (row_ext rx hB) hbp (by decide) ?_
    intro g cap V' k1 k2 k3 k4 k5 k6
    rw [ha]
    refine K g5 g cap V' ?_ k2 (fun b hb hne hnb => (k3 b (Nat.lt_of_lt_of_le hb hB.size) hne hnb).trans (hB.block b hb)) (k4.imp id fun e => by rw [e]; exact hB.size) (Nat.le_trans hB.size k5) k6
    rw [List.flatMap_append]
    exact k1
end

/-- The slots. -/
def t11D (i : Nat) : Tmp := 75 + i
/-- What each operation yields. -/
def t11V (t : Int) (A1 : Option Addr) (k c1 : Nat) (py ps : Nat) (sx sy : Int) (ix : Nat) : Value :=
  match ix with
  | 0 => .pointer (some ⟨py, 1, none⟩)
  | 1 => .slice A1 k c1
  | 2 => .int .i64 t
  | 3 => .pointer (some ⟨ps, 0, none⟩)
  | 4 => .int .i64 sx
  | 5 => .int .i64 (t * sx)
  | 6 => .int .i64 t
  | 7 => .pointer (some ⟨ps, 1, none⟩)
  | 8 => .int .i64 sy
  | 9 => .int .i64 (t * sy)
  | 10 => .agg #[.int .i64 (t * sx), .int .i64 (t * sy)]
  | _ => .bool true
noncomputable def t11Reg : Array Oper := (Try.f12.body.bind (regionOf · 11)).getD #[]
def t11Ok (t : Int) (A1 : Option Addr) (k c1 : Nat) (py ps : Nat) (sx sy : Int) (Q : Exit → Act → World → Prop) (a : Act) (W : World) (ix : Nat) (o : Oper) : Prop :=
  (∀ j b, o.guard = some (j, b) → a.eval (.tmp (t11D j)) = .bool b) ∧ o.wp Try.prog a W (fun a'' W' => ∃ v, a'' = a.put o.dst v ∧ v = t11V t A1 k c1 py ps sx sy ix ∧ Below W.heap.size W W') Q

section
variable {t : Int} {A1 : Option Addr} {k c1 : Nat} {py ps : Nat} {sx sy : Int} {Q : Exit → Act → World → Prop} {a : Act} {V W : World} {o : Oper}
theorem t11_op0 (o11 : a.eval (.tmp 11) = .pointer (some ⟨py, 0, none⟩)) (ho : t11Reg[0]? = some o) : t11Ok t A1 k c1 py ps sx sy Q a W 0 o := by
  have hop := op_at ho (·.op) (x := .fieldAddr 25 (.tmp 11) 1) (by kernel_rfl)
  have hgd := op_at ho (·.guard) (x := none) (by kernel_rfl)
  refine ⟨fun j b h => (by rw [hgd] at h; cases h), ?_⟩
  exact specs_value (R := fun v _ => v = t11V t A1 k c1 py ps sx sy 0) (v := .pointer (some ⟨py, 1, none⟩)) (by simp [execOp, hop, go_sem, ev o11]) rfl (Ext.refl W)
theorem t11_op1 (cx : ∀ W, Ext V W → W.cell? ⟨py, 1, none⟩ = some (.slice A1 k c1)) (hB : Ext V W) (haft : ∀ j, (o.after.any fun e => decide (e.on = j) && Region.binds .any e) = true → a.eval (.tmp (t11D j)) = t11V t A1 k c1 py ps sx sy j) (ho : t11Reg[1]? = some o) : t11Ok t A1 k c1 py ps sx sy Q a W 1 o := by
  have hop := op_at ho (·.op) (x := .load 22 (.tmp 75)) (by kernel_rfl)
  have hgd := op_at ho (·.guard) (x := none) (by kernel_rfl)
  have e0 : a.eval (.tmp 75) = .pointer (some ⟨py, 1, none⟩) := haft 0 (op_at ho (fun o => o.after.any fun e => decide (e.on = 0) && Region.binds .any e) (x := true) (by kernel_rfl))
  refine ⟨fun j b h => (by rw [hgd] at h; cases h), ?_⟩
  have cx' := cx W hB
  exact specs_value (R := fun v _ => v = t11V t A1 k c1 py ps sx sy 1) (v := .slice A1 k c1) (by simp [execOp, hop, go_sem, ev e0, cx']) rfl (Ext.refl W)
theorem t11_op2 (o9 : a.eval (.tmp 9) = .int .i64 t) (ho : t11Reg[2]? = some o) : t11Ok t A1 k c1 py ps sx sy Q a W 2 o := by
  have hop := op_at ho (·.op) (x := .move (.tmp 9)) (by kernel_rfl)
  have hgd := op_at ho (·.guard) (x := none) (by kernel_rfl)
  refine ⟨fun j b h => (by rw [hgd] at h; cases h), ?_⟩
  exact specs_value (R := fun v _ => v = t11V t A1 k c1 py ps sx sy 2) (v := .int .i64 t) (by simp [execOp, hop, go_sem, ev o9]) rfl (Ext.refl W)
theorem t11_op3 (o13 : a.eval (.tmp 13) = .pointer (some ⟨ps, 0, none⟩)) (ho : t11Reg[3]? = some o) : t11Ok t A1 k c1 py ps sx sy Q a W 3 o := by
  have hop := op_at ho (·.op) (x := .fieldAddr 74 (.tmp 13) 0) (by kernel_rfl)
  have hgd := op_at ho (·.guard) (x := none) (by kernel_rfl)
  refine ⟨fun j b h => (by rw [hgd] at h; cases h), ?_⟩
  exact specs_value (R := fun v _ => v = t11V t A1 k c1 py ps sx sy 3) (v := .pointer (some ⟨ps, 0, none⟩)) (by simp [execOp, hop, go_sem, ev o13]) rfl (Ext.refl W)
theorem t11_op4 (cs0 : ∀ W, Ext V W → W.cell? ⟨ps, 0, none⟩ = some (.int .i64 sx)) (hB : Ext V W) (haft : ∀ j, (o.after.any fun e => decide (e.on = j) && Region.binds .any e) = true → a.eval (.tmp (t11D j)) = t11V t A1 k c1 py ps sx sy j) (ho : t11Reg[4]? = some o) : t11Ok t A1 k c1 py ps sx sy Q a W 4 o := by
  have hop := op_at ho (·.op) (x := .load 2 (.tmp 78)) (by kernel_rfl)
  have hgd := op_at ho (·.guard) (x := none) (by kernel_rfl)
  have e3 : a.eval (.tmp 78) = .pointer (some ⟨ps, 0, none⟩) := haft 3 (op_at ho (fun o => o.after.any fun e => decide (e.on = 3) && Region.binds .any e) (x := true) (by kernel_rfl))
  refine ⟨fun j b h => (by rw [hgd] at h; cases h), ?_⟩
  have cs0' := cs0 W hB
  exact specs_value (R := fun v _ => v = t11V t A1 k c1 py ps sx sy 4) (v := .int .i64 sx) (by simp [execOp, hop, go_sem, ev e3, cs0']) rfl (Ext.refl W)
theorem t11_op5 (w1 : IntKind.i64.wrap (t * sx) = t * sx) (haft : ∀ j, (o.after.any fun e => decide (e.on = j) && Region.binds .any e) = true → a.eval (.tmp (t11D j)) = t11V t A1 k c1 py ps sx sy j) (ho : t11Reg[5]? = some o) : t11Ok t A1 k c1 py ps sx sy Q a W 5 o := by
  have hop := op_at ho (·.op) (x := .binOp .mul 2 (.tmp 77) (.tmp 79) 2) (by kernel_rfl)
  have hgd := op_at ho (·.guard) (x := none) (by kernel_rfl)
  have e2 : a.eval (.tmp 77) = .int .i64 t := haft 2 (op_at ho (fun o => o.after.any fun e => decide (e.on = 2) && Region.binds .any e) (x := true) (by kernel_rfl))
  have e4 : a.eval (.tmp 79) = .int .i64 sx := haft 4 (op_at ho (fun o => o.after.any fun e => decide (e.on = 4) && Region.binds .any e) (x := true) (by kernel_rfl))
  refine ⟨fun j b h => (by rw [hgd] at h; cases h), ?_⟩
  exact specs_value (R := fun v _ => v = t11V t A1 k c1 py ps sx sy 5) (v := .int .i64 (t * sx)) (by simp [execOp, hop, go_sem, ev e2, ev e4, w1]) rfl (Ext.refl W)
theorem t11_op6 (o9 : a.eval (.tmp 9) = .int .i64 t) (ho : t11Reg[6]? = some o) : t11Ok t A1 k c1 py ps sx sy Q a W 6 o := by
  have hop := op_at ho (·.op) (x := .move (.tmp 9)) (by kernel_rfl)
  have hgd := op_at ho (·.guard) (x := none) (by kernel_rfl)
  refine ⟨fun j b h => (by rw [hgd] at h; cases h), ?_⟩
  exact specs_value (R := fun v _ => v = t11V t A1 k c1 py ps sx sy 6) (v := .int .i64 t) (by simp [execOp, hop, go_sem, ev o9]) rfl (Ext.refl W)
theorem t11_op7 (o13 : a.eval (.tmp 13) = .pointer (some ⟨ps, 0, none⟩)) (ho : t11Reg[7]? = some o) : t11Ok t A1 k c1 py ps sx sy Q a W 7 o := by
  have hop := op_at ho (·.op) (x := .fieldAddr 74 (.tmp 13) 1) (by kernel_rfl)
  have hgd := op_at ho (·.guard) (x := none) (by kernel_rfl)
  refine ⟨fun j b h => (by rw [hgd] at h; cases h), ?_⟩
  exact specs_value (R := fun v _ => v = t11V t A1 k c1 py ps sx sy 7) (v := .pointer (some ⟨ps, 1, none⟩)) (by simp [execOp, hop, go_sem, ev o13]) rfl (Ext.refl W)
theorem t11_op8 (cs1 : ∀ W, Ext V W → W.cell? ⟨ps, 1, none⟩ = some (.int .i64 sy)) (hB : Ext V W) (haft : ∀ j, (o.after.any fun e => decide (e.on = j) && Region.binds .any e) = true → a.eval (.tmp (t11D j)) = t11V t A1 k c1 py ps sx sy j) (ho : t11Reg[8]? = some o) : t11Ok t A1 k c1 py ps sx sy Q a W 8 o := by
  have hop := op_at ho (·.op) (x := .load 2 (.tmp 82)) (by kernel_rfl)
  have hgd := op_at ho (·.guard) (x := none) (by kernel_rfl)
  have e7 : a.eval (.tmp 82) = .pointer (some ⟨ps, 1, none⟩) := haft 7 (op_at ho (fun o => o.after.any fun e => decide (e.on = 7) && Region.binds .any e) (x := true) (by kernel_rfl))
  refine ⟨fun j b h => (by rw [hgd] at h; cases h), ?_⟩
  have cs1' := cs1 W hB
  exact specs_value (R := fun v _ => v = t11V t A1 k c1 py ps sx sy 8) (v := .int .i64 sy) (by simp [execOp, hop, go_sem, ev e7, cs1']) rfl (Ext.refl W)
theorem t11_op9 (w2 : IntKind.i64.wrap (t * sy) = t * sy) (haft : ∀ j, (o.after.any fun e => decide (e.on = j) && Region.binds .any e) = true → a.eval (.tmp (t11D j)) = t11V t A1 k c1 py ps sx sy j) (ho : t11Reg[9]? = some o) : t11Ok t A1 k c1 py ps sx sy Q a W 9 o := by
  have hop := op_at ho (·.op) (x := .binOp .mul 2 (.tmp 81) (.tmp 83) 2) (by kernel_rfl)
  have hgd := op_at ho (·.guard) (x := none) (by kernel_rfl)
  have e6 : a.eval (.tmp 81) = .int .i64 t := haft 6 (op_at ho (fun o => o.after.any fun e => decide (e.on = 6) && Region.binds .any e) (x := true) (by kernel_rfl))
  have e8 : a.eval (.tmp 83) = .int .i64 sy := haft 8 (op_at ho (fun o => o.after.any fun e => decide (e.on = 8) && Region.binds .any e) (x := true) (by kernel_rfl))
  refine ⟨fun j b h => (by rw [hgd] at h; cases h), ?_⟩
  exact specs_value (R := fun v _ => v = t11V t A1 k c1 py ps sx sy 9) (v := .int .i64 (t * sy)) (by simp [execOp, hop, go_sem, ev e6, ev e8, w2]) rfl (Ext.refl W)
theorem t11_op10 (k51 : ∀ W, Ext V W → Calls Try.prog 51 #[.int .i64 (t * sx), .int .i64 (t * sy)] W fun e w' => e = .returned (.agg #[.int .i64 (t * sx), .int .i64 (t * sy)]) ∧ Below W.heap.size W w') (hB : Ext V W) (haft : ∀ j, (o.after.any fun e => decide (e.on = j) && Region.binds .any e) = true → a.eval (.tmp (t11D j)) = t11V t A1 k c1 py ps sx sy j) (ho : t11Reg[10]? = some o) : t11Ok t A1 k c1 py ps sx sy Q a W 10 o := by
  have hop := op_at ho (·.op) (x := .call { callee := .value (.func 51), args := #[.tmp 80, .tmp 84], argTypes := #[2, 2] }) (by kernel_rfl)
  have hgd := op_at ho (·.guard) (x := none) (by kernel_rfl)
  have e5 : a.eval (.tmp 80) = .int .i64 (t * sx) := haft 5 (op_at ho (fun o => o.after.any fun e => decide (e.on = 5) && Region.binds .any e) (x := true) (by kernel_rfl))
  have e9 : a.eval (.tmp 84) = .int .i64 (t * sy) := haft 9 (op_at ho (fun o => o.after.any fun e => decide (e.on = 9) && Region.binds .any e) (x := true) (by kernel_rfl))
  refine ⟨fun j b h => (by rw [hgd] at h; cases h), ?_⟩
  exact specs_call (R := fun v _ => v = t11V t A1 k c1 py ps sx sy 10) (f := 51) (args := #[.int .i64 (t * sx), .int .i64 (t * sy)]) (by simp [execOp, hop, go_sem, ev e5, ev e9]) ((k51 W hB).mono fun e w' h => ⟨_, h.1, rfl, h.2⟩)
end

section
variable {t : Int} {A1 : Option Addr} {k c1 : Nat} {py ps : Nat} {sx sy : Int}
theorem t11_build {Q : Exit → Act → World → Prop} {a : Act} {W : World} {o : Oper} (haft : ∀ j, (o.after.any fun e => decide (e.on = j) && Region.binds .any e) = true → MixS 11 74 #[.int .i64 (t * sx), .int .i64 (t * sy)] (t11V t A1 k c1 py ps sx sy) j (a.eval (.tmp (t11D j))) W) (ho : t11Reg[11]? = some o) :
    (∀ j b, o.guard = some (j, b) → a.eval (.tmp (t11D j)) = .bool b) ∧ o.wp Try.prog a W (fun a'' W' => ∃ v, a'' = a.put o.dst v ∧ MixS 11 74 #[.int .i64 (t * sx), .int .i64 (t * sy)] (t11V t A1 k c1 py ps sx sy) 11 v W' ∧ Below W.heap.size W W') Q := by
  have hop := op_at ho (·.op) (x := .buildSlice 22 1 #[(0, .tmp 85)]) (by kernel_rfl)
  have hgd := op_at ho (·.guard) (x := none) (by kernel_rfl)
  refine ⟨fun j b h => (by rw [hgd] at h; cases h), ?_⟩
  have e4 : a.eval (.tmp 85) = .agg #[.int .i64 (t * sx), .int .i64 (t * sy)] := (haft 10 (op_at ho (fun o => o.after.any fun e => decide (e.on = 10) && Region.binds .any e) (x := true) (by kernel_rfl))).2 (by decide)
  exact specs_value (R := MixS 11 74 #[.int .i64 (t * sx), .int .i64 (t * sy)] (t11V t A1 k c1 py ps sx sy) 11) (v := .slice (some ⟨W.heap.size, 0, none⟩) 1 1) (W' := W.alloc (.cells #[.int .i64 (t * sx), .int .i64 (t * sy)] 74)) (by simp [execOp, hop, go_sem, ev e4]) ⟨fun _ => ⟨_, rfl, row_last _ _ _ rfl⟩, fun h => absurd rfl h⟩ ((Below.refl _ W).alloc (Nat.le_refl _) _)

set_option maxRecDepth 100000 in
set_option maxHeartbeats 4000000 in
/-- The statement of region 11. -/
theorem t11_wp {Q : Exit → Act → World → Prop} {a : Act} {V wb : World} {xs : List (Int × Int)} {c0 u : Value} (hlen : a.tmps.size = 214) (o9 : a.eval (.tmp 9) = .int .i64 t) (o11 : a.eval (.tmp 11) = .pointer (some ⟨py, 0, none⟩)) (o13 : a.eval (.tmp 13) = .pointer (some ⟨ps, 0, none⟩)) (rx : V.heap[py]? = some (.cells #[c0, .slice A1 k c1, u] 25 (0, 0))) (rs : V.heap[ps]? = some (.cells #[.int .i64 sx, .int .i64 sy] 74 (0, 0))) (w1 : IntKind.i64.wrap (t * sx) = t * sx) (w2 : IntKind.i64.wrap (t * sy) = t * sy)
    (hown : V.ownsRow wb.heap.size 74 2 (.slice A1 k c1) k (xs.flatMap encS)) (hk : k ≤ 1000) (hE : Ext wb V) (hbp : wb.heap.size ≤ py)
    (K : ∀ g5 g cap V', V'.ownsRow wb.heap.size 74 2 (.slice (some ⟨g, 0, none⟩) (k + 1) cap) (k + 1) ((xs ++ [(t * sx, t * sy)]).flatMap encS) → V'.heap[py]? = some (.cells #[c0, .slice (some ⟨g, 0, none⟩) (k + 1) cap, u] 25 (0, 0)) →
      (∀ b, b < V.heap.size → b ≠ py → some b ≠ (Value.slice A1 k c1).ownBlock → V'.heap[b]? = V.heap[b]?) → ((Value.slice A1 k c1).ownBlock = some g ∨ V.heap.size ≤ g) → V.heap.size ≤ V'.heap.size → Ext wb V' →
      Q .normal (puts a [(75, .pointer (some ⟨py, 1, none⟩)), (76, .slice A1 k c1), (77, .int .i64 t), (78, .pointer (some ⟨ps, 0, none⟩)), (79, .int .i64 sx), (80, .int .i64 (t * sx)), (81, .int .i64 t), (82, .pointer (some ⟨ps, 1, none⟩)), (83, .int .i64 sy), (84, .int .i64 (t * sy)), (85, .agg #[.int .i64 (t * sx), .int .i64 (t * sy)]), (86, .slice (some ⟨g5, 0, none⟩) 1 1), (87, .slice (some ⟨g, 0, none⟩) (k + 1) cap), (88, .pointer (some ⟨py, 1, none⟩))]) V') :
    (Code.region 11 t11Reg true).wp Try.prog Q a V := by
  have cx : ∀ W, Ext V W → W.cell? ⟨py, 1, none⟩ = some (.slice A1 k c1) := fun W h => cell_of_row _ _ _ _ _ _ (row_ext rx h)
  have cs0 : ∀ W, Ext V W → W.cell? ⟨ps, 0, none⟩ = some (.int .i64 sx) := fun W h => cell_of_row _ _ _ _ _ _ (row_ext rs h)
  have cs1 : ∀ W, Ext V W → W.cell? ⟨ps, 1, none⟩ = some (.int .i64 sy) := fun W h => cell_of_row _ _ _ _ _ _ (row_ext rs h)
  have k51 := fun (W : World) (_ : Ext V W) => spot_any (t * sx) (t * sy) W
  refine wp_region_specs_sink (ops := t11Reg) 12 (MixS 11 74 #[.int .i64 (t * sx), .int .i64 (t * sy)] (t11V t A1 k c1 py ps sx sy)) (Ext V) (by kernel_rfl) (by rw [hlen]; kernel_rfl) (by kernel_rfl) ⟨rfl, rfl, rfl, Nat.le_refl _, fun _ _ => rfl⟩ (fun _ _ h e => h.trans e) mixS_ext t11D (by kernel_rfl) ?_ ?_
  · intro i o hi ho a W hB hsz hold haft
    match i, hi with
    | 0, _ => exact mix_pure (by decide) (t11_op0 ((hold 11 (by kernel_rfl)).trans o11) ho)
    | 1, _ => exact mix_pure (by decide) (t11_op1 cx hB (mix_after (op_at ho (fun o => o.after.any fun e => decide (e.on = 11) && Region.binds .any e) (x := false) (by kernel_rfl)) haft) ho)
    | 2, _ => exact mix_pure (by decide) (t11_op2 ((hold 9 (by kernel_rfl)).trans o9) ho)
    | 3, _ => exact mix_pure (by decide) (t11_op3 ((hold 13 (by kernel_rfl)).trans o13) ho)
    | 4, _ => exact mix_pure (by decide) (t11_op4 cs0 hB (mix_after (op_at ho (fun o => o.after.any fun e => decide (e.on = 11) && Region.binds .any e) (x := false) (by kernel_rfl)) haft) ho)
    | 5, _ => exact mix_pure (by decide) (t11_op5 w1 (mix_after (op_at ho (fun o => o.after.any fun e => decide (e.on = 11) && Region.binds .any e) (x := false) (by kernel_rfl)) haft) ho)
    | 6, _ => exact mix_pure (by decide) (t11_op6 ((hold 9 (by kernel_rfl)).trans o9) ho)
    | 7, _ => exact mix_pure (by decide) (t11_op7 ((hold 13 (by kernel_rfl)).trans o13) ho)
    | 8, _ => exact mix_pure (by decide) (t11_op8 cs1 hB (mix_after (op_at ho (fun o => o.after.any fun e => decide (e.on = 11) && Region.binds .any e) (x := false) (by kernel_rfl)) haft) ho)
    | 9, _ => exact mix_pure (by decide) (t11_op9 w2 (mix_after (op_at ho (fun o => o.after.any fun e => decide (e.on = 11) && Region.binds .any e) (x := false) (by kernel_rfl)) haft) ho)
    | 10, _ => exact mix_pure (by decide) (t11_op10 k51 hB (mix_after (op_at ho (fun o => o.after.any fun e => decide (e.on = 11) && Region.binds .any e) (x := false) (by kernel_rfl)) haft) ho)
    | 11, _ => exact t11_build haft ho
    | m + 12, h => exact absurd h (by omega)
  · intro a1 W hB hsz hdf hold hS
    obtain ⟨g5, e5, hnew⟩ := (hS 11 (by omega)).1 rfl
    have hlen1 : a1.tmps.size = 214 := hsz.trans hlen
    have hall : ∀ z, z ∈ ([(75, .pointer (some ⟨py, 1, none⟩)), (76, .slice A1 k c1), (77, .int .i64 t), (78, .pointer (some ⟨ps, 0, none⟩)), (79, .int .i64 sx), (80, .int .i64 (t * sx)), (81, .int .i64 t), (82, .pointer (some ⟨ps, 1, none⟩)), (83, .int .i64 sy), (84, .int .i64 (t * sy)), (85, .agg #[.int .i64 (t * sx), .int .i64 (t * sy)]), (86, .slice (some ⟨g5, 0, none⟩) 1 1)] : List (Tmp × Value)) → z.1 < a.tmps.size ∧ a1.eval (.tmp z.1) = z.2 := by
      intro z hz
      rw [hlen]
      simp only [List.mem_cons, List.not_mem_nil, or_false] at hz
      rcases hz with rfl | rfl | rfl | rfl | rfl | rfl | rfl | rfl | rfl | rfl | rfl | rfl
      · exact ⟨(show (75 : Nat) < 214 by omega), (hS 0 (by omega)).2 (by decide)⟩
      · exact ⟨(show (76 : Nat) < 214 by omega), (hS 1 (by omega)).2 (by decide)⟩
      · exact ⟨(show (77 : Nat) < 214 by omega), (hS 2 (by omega)).2 (by decide)⟩
      · exact ⟨(show (78 : Nat) < 214 by omega), (hS 3 (by omega)).2 (by decide)⟩
      · exact ⟨(show (79 : Nat) < 214 by omega), (hS 4 (by omega)).2 (by decide)⟩
      · exact ⟨(show (80 : Nat) < 214 by omega), (hS 5 (by omega)).2 (by decide)⟩
      · exact ⟨(show (81 : Nat) < 214 by omega), (hS 6 (by omega)).2 (by decide)⟩
      · exact ⟨(show (82 : Nat) < 214 by omega), (hS 7 (by omega)).2 (by decide)⟩
      · exact ⟨(show (83 : Nat) < 214 by omega), (hS 8 (by omega)).2 (by decide)⟩
      · exact ⟨(show (84 : Nat) < 214 by omega), (hS 9 (by omega)).2 (by decide)⟩
      · exact ⟨(show (85 : Nat) < 214 by omega), (hS 10 (by omega)).2 (by decide)⟩
      · exact ⟨(show (86 : Nat) < 214 by omega), e5⟩
    have ha := act_puts hsz hdf hall (fun t ht => hold t (all_ne_of (l := [(75, .pointer (some ⟨py, 1, none⟩)), (76, .slice A1 k c1), (77, .int .i64 t), (78, .pointer (some ⟨ps, 0, none⟩)), (79, .int .i64 sx), (80, .int .i64 (t * sx)), (81, .int .i64 t), (82, .pointer (some ⟨ps, 1, none⟩)), (83, .int .i64 sy), (84, .int .i64 (t * sy)), (85, .agg #[.int .i64 (t * sx), .int .i64 (t * sy)]), (86, .slice (some ⟨g5, 0, none⟩) 1 1)]) (by kernel_rfl) ht))
    obtain ⟨o1, o2, o3, hdr, h1, h2, h3⟩ : ∃ o1 o2 o3, t11Reg.toList.drop 12 = [o1, o2, o3] ∧ t11Reg[12]? = some o1 ∧ t11Reg[13]? = some o2 ∧ t11Reg[14]? = some o3 := by
      have hs : t11Reg.size = 15 := by kernel_rfl
      refine ⟨t11Reg[12], t11Reg[13], t11Reg[14], ?_, Array.getElem?_eq_getElem _, Array.getElem?_eq_getElem _, Array.getElem?_eq_getElem _⟩
      rw [List.drop_eq_getElem_cons (by simp [hs]), List.drop_eq_getElem_cons (by simp [hs]), List.drop_eq_getElem_cons (by simp [hs]), List.drop_eq_nil_of_le (by simp [hs])]
      simp
    rw [hdr]
    obtain ⟨i0, hi0, hz0, hz1, hz2⟩ := info_parts info74b
    refine wp_tail_field (op_at h1 (·.guard) (x := none) (by kernel_rfl)) (op_at h2 (·.guard) (x := none) (by kernel_rfl)) (op_at h3 (·.guard) (x := none) (by kernel_rfl))
      (op_at h1 (·.op) (x := .call { callee := .builtin .append, args := #[.tmp 76, .tmp 86], argTypes := #[22, 22] }) (by kernel_rfl)) (op_at h2 (·.op) (x := .fieldAddr 25 (.tmp 11) 1) (by kernel_rfl)) (op_at h3 (·.op) (x := .store 22 (.tmp 88) (.tmp 87)) (by kernel_rfl))
      (op_at h1 (·.dst) (x := some 87) (by kernel_rfl)) (op_at h2 (·.dst) (x := some 88) (by kernel_rfl)) (op_at h3 (·.dst) (x := none) (by kernel_rfl)) (by rw [hlen1]; decide) (by rw [hlen1]; decide) (by decide) (by decide) (by decide) (by decide) Try.underlying22 hi0 hz0 hz1 hz2 rfl (by decide)
      ((hS 1 (by omega)).2 (by decide)) (owns_ext hown hB) e5 hnew rfl (by simp [Value.oneCell']) hk (by decide) (hE.trans hB) ((hold 11 (by kernel_rfl)).trans o11) (row_ext rx hB) hbp (by decide) ?_
    intro g cap V' k1 k2 k3 k4 k5 k6
    rw [ha]
    refine K g5 g cap V' ?_ k2 (fun b hb hne hnb => (k3 b (Nat.lt_of_lt_of_le hb hB.size) hne hnb).trans (hB.block b hb)) (k4.imp id fun e => by rw [e]; exact hB.size) (Nat.le_trans hB.size k5) k6
    rw [List.flatMap_append]
    exact k1
end

/-- The slots. -/
def t16D (i : Nat) : Tmp := 101 + i
/-- What each operation yields. -/
def t16V (t : Int) (A1 : Option Addr) (k c1 : Nat) (py ps : Nat) (sp lo hi : Int) (ix : Nat) : Value :=
  match ix with
  | 0 => .pointer (some ⟨py, 2, none⟩)
  | 1 => .slice A1 k c1
  | 2 => .pointer (some ⟨ps, 0, none⟩)
  | 3 => .int .i64 sp
  | 4 => .int .i64 t
  | 5 => .int .i64 t
  | 6 => .int .i64 (t * t)
  | 7 => .pointer (some ⟨ps, 1, none⟩)
  | 8 => .pointer (some ⟨ps, 1, none⟩)
  | 9 => .int .i64 lo
  | 10 => .int .i64 (t * t * lo)
  | 11 => .int .i64 t
  | 12 => .int .i64 t
  | 13 => .int .i64 (t * t)
  | 14 => .pointer (some ⟨ps, 1, none⟩)
  | 15 => .pointer (some ⟨ps, 2, none⟩)
  | 16 => .int .i64 hi
  | 17 => .int .i64 (t * t * hi)
  | 18 => .agg #[.int .i64 sp, .int .i64 (t * t * lo), .int .i64 (t * t * hi)]
  | _ => .bool true
noncomputable def t16Reg : Array Oper := (Try.f12.body.bind (regionOf · 16)).getD #[]
def t16Ok (t : Int) (A1 : Option Addr) (k c1 : Nat) (py ps : Nat) (sp lo hi : Int) (Q : Exit → Act → World → Prop) (a : Act) (W : World) (ix : Nat) (o : Oper) : Prop :=
  (∀ j b, o.guard = some (j, b) → a.eval (.tmp (t16D j)) = .bool b) ∧ o.wp Try.prog a W (fun a'' W' => ∃ v, a'' = a.put o.dst v ∧ v = t16V t A1 k c1 py ps sp lo hi ix ∧ Below W.heap.size W W') Q

section
variable {t : Int} {A1 : Option Addr} {k c1 : Nat} {py ps : Nat} {sp lo hi : Int} {Q : Exit → Act → World → Prop} {a : Act} {V W : World} {o : Oper}
theorem t16_op0 (o11 : a.eval (.tmp 11) = .pointer (some ⟨py, 0, none⟩)) (ho : t16Reg[0]? = some o) : t16Ok t A1 k c1 py ps sp lo hi Q a W 0 o := by
  have hop := op_at ho (·.op) (x := .fieldAddr 25 (.tmp 11) 2) (by kernel_rfl)
  have hgd := op_at ho (·.guard) (x := none) (by kernel_rfl)
  refine ⟨fun j b h => (by rw [hgd] at h; cases h), ?_⟩
  exact specs_value (R := fun v _ => v = t16V t A1 k c1 py ps sp lo hi 0) (v := .pointer (some ⟨py, 2, none⟩)) (by simp [execOp, hop, go_sem, ev o11]) rfl (Ext.refl W)
theorem t16_op1 (cx : ∀ W, Ext V W → W.cell? ⟨py, 2, none⟩ = some (.slice A1 k c1)) (hB : Ext V W) (haft : ∀ j, (o.after.any fun e => decide (e.on = j) && Region.binds .any e) = true → a.eval (.tmp (t16D j)) = t16V t A1 k c1 py ps sp lo hi j) (ho : t16Reg[1]? = some o) : t16Ok t A1 k c1 py ps sp lo hi Q a W 1 o := by
  have hop := op_at ho (·.op) (x := .load 23 (.tmp 101)) (by kernel_rfl)
  have hgd := op_at ho (·.guard) (x := none) (by kernel_rfl)
  have e0 : a.eval (.tmp 101) = .pointer (some ⟨py, 2, none⟩) := haft 0 (op_at ho (fun o => o.after.any fun e => decide (e.on = 0) && Region.binds .any e) (x := true) (by kernel_rfl))
  refine ⟨fun j b h => (by rw [hgd] at h; cases h), ?_⟩
  have cx' := cx W hB
  exact specs_value (R := fun v _ => v = t16V t A1 k c1 py ps sp lo hi 1) (v := .slice A1 k c1) (by simp [execOp, hop, go_sem, ev e0, cx']) rfl (Ext.refl W)
theorem t16_op2 (o15 : a.eval (.tmp 15) = .pointer (some ⟨ps, 0, none⟩)) (ho : t16Reg[2]? = some o) : t16Ok t A1 k c1 py ps sp lo hi Q a W 2 o := by
  have hop := op_at ho (·.op) (x := .fieldAddr 62 (.tmp 15) 0) (by kernel_rfl)
  have hgd := op_at ho (·.guard) (x := none) (by kernel_rfl)
  refine ⟨fun j b h => (by rw [hgd] at h; cases h), ?_⟩
  exact specs_value (R := fun v _ => v = t16V t A1 k c1 py ps sp lo hi 2) (v := .pointer (some ⟨ps, 0, none⟩)) (by simp [execOp, hop, go_sem, ev o15]) rfl (Ext.refl W)
theorem t16_op3 (cs0 : ∀ W, Ext V W → W.cell? ⟨ps, 0, none⟩ = some (.int .i64 sp)) (hB : Ext V W) (haft : ∀ j, (o.after.any fun e => decide (e.on = j) && Region.binds .any e) = true → a.eval (.tmp (t16D j)) = t16V t A1 k c1 py ps sp lo hi j) (ho : t16Reg[3]? = some o) : t16Ok t A1 k c1 py ps sp lo hi Q a W 3 o := by
  have hop := op_at ho (·.op) (x := .load 3 (.tmp 103)) (by kernel_rfl)
  have hgd := op_at ho (·.guard) (x := none) (by kernel_rfl)
  have e2 : a.eval (.tmp 103) = .pointer (some ⟨ps, 0, none⟩) := haft 2 (op_at ho (fun o => o.after.any fun e => decide (e.on = 2) && Region.binds .any e) (x := true) (by kernel_rfl))
  refine ⟨fun j b h => (by rw [hgd] at h; cases h), ?_⟩
  have cs0' := cs0 W hB
  exact specs_value (R := fun v _ => v = t16V t A1 k c1 py ps sp lo hi 3) (v := .int .i64 sp) (by simp [execOp, hop, go_sem, ev e2, cs0']) rfl (Ext.refl W)
theorem t16_op4 (o9 : a.eval (.tmp 9) = .int .i64 t) (ho : t16Reg[4]? = some o) : t16Ok t A1 k c1 py ps sp lo hi Q a W 4 o := by
  have hop := op_at ho (·.op) (x := .move (.tmp 9)) (by kernel_rfl)
  have hgd := op_at ho (·.guard) (x := none) (by kernel_rfl)
  refine ⟨fun j b h => (by rw [hgd] at h; cases h), ?_⟩
  exact specs_value (R := fun v _ => v = t16V t A1 k c1 py ps sp lo hi 4) (v := .int .i64 t) (by simp [execOp, hop, go_sem, ev o9]) rfl (Ext.refl W)
theorem t16_op5 (o9 : a.eval (.tmp 9) = .int .i64 t) (ho : t16Reg[5]? = some o) : t16Ok t A1 k c1 py ps sp lo hi Q a W 5 o := by
  have hop := op_at ho (·.op) (x := .move (.tmp 9)) (by kernel_rfl)
  have hgd := op_at ho (·.guard) (x := none) (by kernel_rfl)
  refine ⟨fun j b h => (by rw [hgd] at h; cases h), ?_⟩
  exact specs_value (R := fun v _ => v = t16V t A1 k c1 py ps sp lo hi 5) (v := .int .i64 t) (by simp [execOp, hop, go_sem, ev o9]) rfl (Ext.refl W)
theorem t16_op6 (w0 : IntKind.i64.wrap (t * t) = t * t) (haft : ∀ j, (o.after.any fun e => decide (e.on = j) && Region.binds .any e) = true → a.eval (.tmp (t16D j)) = t16V t A1 k c1 py ps sp lo hi j) (ho : t16Reg[6]? = some o) : t16Ok t A1 k c1 py ps sp lo hi Q a W 6 o := by
  have hop := op_at ho (·.op) (x := .binOp .mul 2 (.tmp 105) (.tmp 106) 2) (by kernel_rfl)
  have hgd := op_at ho (·.guard) (x := none) (by kernel_rfl)
  have e4 : a.eval (.tmp 105) = .int .i64 t := haft 4 (op_at ho (fun o => o.after.any fun e => decide (e.on = 4) && Region.binds .any e) (x := true) (by kernel_rfl))
  have e5 : a.eval (.tmp 106) = .int .i64 t := haft 5 (op_at ho (fun o => o.after.any fun e => decide (e.on = 5) && Region.binds .any e) (x := true) (by kernel_rfl))
  refine ⟨fun j b h => (by rw [hgd] at h; cases h), ?_⟩
  exact specs_value (R := fun v _ => v = t16V t A1 k c1 py ps sp lo hi 6) (v := .int .i64 (t * t)) (by simp [execOp, hop, go_sem, ev e4, ev e5, w0]) rfl (Ext.refl W)
theorem t16_op7 (o15 : a.eval (.tmp 15) = .pointer (some ⟨ps, 0, none⟩)) (ho : t16Reg[7]? = some o) : t16Ok t A1 k c1 py ps sp lo hi Q a W 7 o := by
  have hop := op_at ho (·.op) (x := .fieldAddr 62 (.tmp 15) 1) (by kernel_rfl)
  have hgd := op_at ho (·.guard) (x := none) (by kernel_rfl)
  refine ⟨fun j b h => (by rw [hgd] at h; cases h), ?_⟩
  exact specs_value (R := fun v _ => v = t16V t A1 k c1 py ps sp lo hi 7) (v := .pointer (some ⟨ps, 1, none⟩)) (by simp [execOp, hop, go_sem, ev o15]) rfl (Ext.refl W)
theorem t16_op8 (haft : ∀ j, (o.after.any fun e => decide (e.on = j) && Region.binds .any e) = true → a.eval (.tmp (t16D j)) = t16V t A1 k c1 py ps sp lo hi j) (ho : t16Reg[8]? = some o) : t16Ok t A1 k c1 py ps sp lo hi Q a W 8 o := by
  have hop := op_at ho (·.op) (x := .fieldAddr 29 (.tmp 108) 0) (by kernel_rfl)
  have hgd := op_at ho (·.guard) (x := none) (by kernel_rfl)
  have e7 : a.eval (.tmp 108) = .pointer (some ⟨ps, 1, none⟩) := haft 7 (op_at ho (fun o => o.after.any fun e => decide (e.on = 7) && Region.binds .any e) (x := true) (by kernel_rfl))
  refine ⟨fun j b h => (by rw [hgd] at h; cases h), ?_⟩
  exact specs_value (R := fun v _ => v = t16V t A1 k c1 py ps sp lo hi 8) (v := .pointer (some ⟨ps, 1, none⟩)) (by simp [execOp, hop, go_sem, ev e7]) rfl (Ext.refl W)
theorem t16_op9 (cs1 : ∀ W, Ext V W → W.cell? ⟨ps, 1, none⟩ = some (.int .i64 lo)) (hB : Ext V W) (haft : ∀ j, (o.after.any fun e => decide (e.on = j) && Region.binds .any e) = true → a.eval (.tmp (t16D j)) = t16V t A1 k c1 py ps sp lo hi j) (ho : t16Reg[9]? = some o) : t16Ok t A1 k c1 py ps sp lo hi Q a W 9 o := by
  have hop := op_at ho (·.op) (x := .load 2 (.tmp 109)) (by kernel_rfl)
  have hgd := op_at ho (·.guard) (x := none) (by kernel_rfl)
  have e8 : a.eval (.tmp 109) = .pointer (some ⟨ps, 1, none⟩) := haft 8 (op_at ho (fun o => o.after.any fun e => decide (e.on = 8) && Region.binds .any e) (x := true) (by kernel_rfl))
  refine ⟨fun j b h => (by rw [hgd] at h; cases h), ?_⟩
  have cs1' := cs1 W hB
  exact specs_value (R := fun v _ => v = t16V t A1 k c1 py ps sp lo hi 9) (v := .int .i64 lo) (by simp [execOp, hop, go_sem, ev e8, cs1']) rfl (Ext.refl W)
theorem t16_op10 (w1 : IntKind.i64.wrap (t * t * lo) = t * t * lo) (haft : ∀ j, (o.after.any fun e => decide (e.on = j) && Region.binds .any e) = true → a.eval (.tmp (t16D j)) = t16V t A1 k c1 py ps sp lo hi j) (ho : t16Reg[10]? = some o) : t16Ok t A1 k c1 py ps sp lo hi Q a W 10 o := by
  have hop := op_at ho (·.op) (x := .binOp .mul 2 (.tmp 107) (.tmp 110) 2) (by kernel_rfl)
  have hgd := op_at ho (·.guard) (x := none) (by kernel_rfl)
  have e6 : a.eval (.tmp 107) = .int .i64 (t * t) := haft 6 (op_at ho (fun o => o.after.any fun e => decide (e.on = 6) && Region.binds .any e) (x := true) (by kernel_rfl))
  have e9 : a.eval (.tmp 110) = .int .i64 lo := haft 9 (op_at ho (fun o => o.after.any fun e => decide (e.on = 9) && Region.binds .any e) (x := true) (by kernel_rfl))
  refine ⟨fun j b h => (by rw [hgd] at h; cases h), ?_⟩
  exact specs_value (R := fun v _ => v = t16V t A1 k c1 py ps sp lo hi 10) (v := .int .i64 (t * t * lo)) (by simp [execOp, hop, go_sem, ev e6, ev e9, w1]) rfl (Ext.refl W)
theorem t16_op11 (o9 : a.eval (.tmp 9) = .int .i64 t) (ho : t16Reg[11]? = some o) : t16Ok t A1 k c1 py ps sp lo hi Q a W 11 o := by
  have hop := op_at ho (·.op) (x := .move (.tmp 9)) (by kernel_rfl)
  have hgd := op_at ho (·.guard) (x := none) (by kernel_rfl)
  refine ⟨fun j b h => (by rw [hgd] at h; cases h), ?_⟩
  exact specs_value (R := fun v _ => v = t16V t A1 k c1 py ps sp lo hi 11) (v := .int .i64 t) (by simp [execOp, hop, go_sem, ev o9]) rfl (Ext.refl W)
theorem t16_op12 (o9 : a.eval (.tmp 9) = .int .i64 t) (ho : t16Reg[12]? = some o) : t16Ok t A1 k c1 py ps sp lo hi Q a W 12 o := by
  have hop := op_at ho (·.op) (x := .move (.tmp 9)) (by kernel_rfl)
  have hgd := op_at ho (·.guard) (x := none) (by kernel_rfl)
  refine ⟨fun j b h => (by rw [hgd] at h; cases h), ?_⟩
  exact specs_value (R := fun v _ => v = t16V t A1 k c1 py ps sp lo hi 12) (v := .int .i64 t) (by simp [execOp, hop, go_sem, ev o9]) rfl (Ext.refl W)
theorem t16_op13 (w0 : IntKind.i64.wrap (t * t) = t * t) (haft : ∀ j, (o.after.any fun e => decide (e.on = j) && Region.binds .any e) = true → a.eval (.tmp (t16D j)) = t16V t A1 k c1 py ps sp lo hi j) (ho : t16Reg[13]? = some o) : t16Ok t A1 k c1 py ps sp lo hi Q a W 13 o := by
  have hop := op_at ho (·.op) (x := .binOp .mul 2 (.tmp 112) (.tmp 113) 2) (by kernel_rfl)
  have hgd := op_at ho (·.guard) (x := none) (by kernel_rfl)
  have e11 : a.eval (.tmp 112) = .int .i64 t := haft 11 (op_at ho (fun o => o.after.any fun e => decide (e.on = 11) && Region.binds .any e) (x := true) (by kernel_rfl))
  have e12 : a.eval (.tmp 113) = .int .i64 t := haft 12 (op_at ho (fun o => o.after.any fun e => decide (e.on = 12) && Region.binds .any e) (x := true) (by kernel_rfl))
  refine ⟨fun j b h => (by rw [hgd] at h; cases h), ?_⟩
  exact specs_value (R := fun v _ => v = t16V t A1 k c1 py ps sp lo hi 13) (v := .int .i64 (t * t)) (by simp [execOp, hop, go_sem, ev e11, ev e12, w0]) rfl (Ext.refl W)
theorem t16_op14 (o15 : a.eval (.tmp 15) = .pointer (some ⟨ps, 0, none⟩)) (ho : t16Reg[14]? = some o) : t16Ok t A1 k c1 py ps sp lo hi Q a W 14 o := by
  have hop := op_at ho (·.op) (x := .fieldAddr 62 (.tmp 15) 1) (by kernel_rfl)
  have hgd := op_at ho (·.guard) (x := none) (by kernel_rfl)
  refine ⟨fun j b h => (by rw [hgd] at h; cases h), ?_⟩
  exact specs_value (R := fun v _ => v = t16V t A1 k c1 py ps sp lo hi 14) (v := .pointer (some ⟨ps, 1, none⟩)) (by simp [execOp, hop, go_sem, ev o15]) rfl (Ext.refl W)
theorem t16_op15 (haft : ∀ j, (o.after.any fun e => decide (e.on = j) && Region.binds .any e) = true → a.eval (.tmp (t16D j)) = t16V t A1 k c1 py ps sp lo hi j) (ho : t16Reg[15]? = some o) : t16Ok t A1 k c1 py ps sp lo hi Q a W 15 o := by
  have hop := op_at ho (·.op) (x := .fieldAddr 29 (.tmp 115) 1) (by kernel_rfl)
  have hgd := op_at ho (·.guard) (x := none) (by kernel_rfl)
  have e14 : a.eval (.tmp 115) = .pointer (some ⟨ps, 1, none⟩) := haft 14 (op_at ho (fun o => o.after.any fun e => decide (e.on = 14) && Region.binds .any e) (x := true) (by kernel_rfl))
  refine ⟨fun j b h => (by rw [hgd] at h; cases h), ?_⟩
  exact specs_value (R := fun v _ => v = t16V t A1 k c1 py ps sp lo hi 15) (v := .pointer (some ⟨ps, 2, none⟩)) (by simp [execOp, hop, go_sem, ev e14]) rfl (Ext.refl W)
theorem t16_op16 (cs2 : ∀ W, Ext V W → W.cell? ⟨ps, 2, none⟩ = some (.int .i64 hi)) (hB : Ext V W) (haft : ∀ j, (o.after.any fun e => decide (e.on = j) && Region.binds .any e) = true → a.eval (.tmp (t16D j)) = t16V t A1 k c1 py ps sp lo hi j) (ho : t16Reg[16]? = some o) : t16Ok t A1 k c1 py ps sp lo hi Q a W 16 o := by
  have hop := op_at ho (·.op) (x := .load 2 (.tmp 116)) (by kernel_rfl)
  have hgd := op_at ho (·.guard) (x := none) (by kernel_rfl)
  have e15 : a.eval (.tmp 116) = .pointer (some ⟨ps, 2, none⟩) := haft 15 (op_at ho (fun o => o.after.any fun e => decide (e.on = 15) && Region.binds .any e) (x := true) (by kernel_rfl))
  refine ⟨fun j b h => (by rw [hgd] at h; cases h), ?_⟩
  have cs2' := cs2 W hB
  exact specs_value (R := fun v _ => v = t16V t A1 k c1 py ps sp lo hi 16) (v := .int .i64 hi) (by simp [execOp, hop, go_sem, ev e15, cs2']) rfl (Ext.refl W)
theorem t16_op17 (w2 : IntKind.i64.wrap (t * t * hi) = t * t * hi) (haft : ∀ j, (o.after.any fun e => decide (e.on = j) && Region.binds .any e) = true → a.eval (.tmp (t16D j)) = t16V t A1 k c1 py ps sp lo hi j) (ho : t16Reg[17]? = some o) : t16Ok t A1 k c1 py ps sp lo hi Q a W 17 o := by
  have hop := op_at ho (·.op) (x := .binOp .mul 2 (.tmp 114) (.tmp 117) 2) (by kernel_rfl)
  have hgd := op_at ho (·.guard) (x := none) (by kernel_rfl)
  have e13 : a.eval (.tmp 114) = .int .i64 (t * t) := haft 13 (op_at ho (fun o => o.after.any fun e => decide (e.on = 13) && Region.binds .any e) (x := true) (by kernel_rfl))
  have e16 : a.eval (.tmp 117) = .int .i64 hi := haft 16 (op_at ho (fun o => o.after.any fun e => decide (e.on = 16) && Region.binds .any e) (x := true) (by kernel_rfl))
  refine ⟨fun j b h => (by rw [hgd] at h; cases h), ?_⟩
  exact specs_value (R := fun v _ => v = t16V t A1 k c1 py ps sp lo hi 17) (v := .int .i64 (t * t * hi)) (by simp [execOp, hop, go_sem, ev e13, ev e16, w2]) rfl (Ext.refl W)
theorem t16_op18 (k49 : ∀ W, Ext V W → Calls Try.prog 49 #[.int .i64 sp, .int .i64 (t * t * lo), .int .i64 (t * t * hi)] W fun e w' => e = .returned (.agg #[.int .i64 sp, .int .i64 (t * t * lo), .int .i64 (t * t * hi)]) ∧ Below W.heap.size W w') (hB : Ext V W) (haft : ∀ j, (o.after.any fun e => decide (e.on = j) && Region.binds .any e) = true → a.eval (.tmp (t16D j)) = t16V t A1 k c1 py ps sp lo hi j) (ho : t16Reg[18]? = some o) : t16Ok t A1 k c1 py ps sp lo hi Q a W 18 o := by
  have hop := op_at ho (·.op) (x := .call { callee := .value (.func 49), args := #[.tmp 104, .tmp 111, .tmp 118], argTypes := #[3, 2, 2] }) (by kernel_rfl)
  have hgd := op_at ho (·.guard) (x := none) (by kernel_rfl)
  have e3 : a.eval (.tmp 104) = .int .i64 sp := haft 3 (op_at ho (fun o => o.after.any fun e => decide (e.on = 3) && Region.binds .any e) (x := true) (by kernel_rfl))
  have e10 : a.eval (.tmp 111) = .int .i64 (t * t * lo) := haft 10 (op_at ho (fun o => o.after.any fun e => decide (e.on = 10) && Region.binds .any e) (x := true) (by kernel_rfl))
  have e17 : a.eval (.tmp 118) = .int .i64 (t * t * hi) := haft 17 (op_at ho (fun o => o.after.any fun e => decide (e.on = 17) && Region.binds .any e) (x := true) (by kernel_rfl))
  refine ⟨fun j b h => (by rw [hgd] at h; cases h), ?_⟩
  exact specs_call (R := fun v _ => v = t16V t A1 k c1 py ps sp lo hi 18) (f := 49) (args := #[.int .i64 sp, .int .i64 (t * t * lo), .int .i64 (t * t * hi)]) (by simp [execOp, hop, go_sem, ev e3, ev e10, ev e17]) ((k49 W hB).mono fun e w' h => ⟨_, h.1, rfl, h.2⟩)
end

section
variable {t : Int} {A1 : Option Addr} {k c1 : Nat} {py ps : Nat} {sp lo hi : Int}
theorem t16_build {Q : Exit → Act → World → Prop} {a : Act} {W : World} {o : Oper} (haft : ∀ j, (o.after.any fun e => decide (e.on = j) && Region.binds .any e) = true → MixS 19 62 #[.int .i64 sp, .int .i64 (t * t * lo), .int .i64 (t * t * hi)] (t16V t A1 k c1 py ps sp lo hi) j (a.eval (.tmp (t16D j))) W) (ho : t16Reg[19]? = some o) :
    (∀ j b, o.guard = some (j, b) → a.eval (.tmp (t16D j)) = .bool b) ∧ o.wp Try.prog a W (fun a'' W' => ∃ v, a'' = a.put o.dst v ∧ MixS 19 62 #[.int .i64 sp, .int .i64 (t * t * lo), .int .i64 (t * t * hi)] (t16V t A1 k c1 py ps sp lo hi) 19 v W' ∧ Below W.heap.size W W') Q := by
  have hop := op_at ho (·.op) (x := .buildSlice 23 1 #[(0, .tmp 119)]) (by kernel_rfl)
  have hgd := op_at ho (·.guard) (x := none) (by kernel_rfl)
  refine ⟨fun j b h => (by rw [hgd] at h; cases h), ?_⟩
  have e4 : a.eval (.tmp 119) = .agg #[.int .i64 sp, .int .i64 (t * t * lo), .int .i64 (t * t * hi)] := (haft 18 (op_at ho (fun o => o.after.any fun e => decide (e.on = 18) && Region.binds .any e) (x := true) (by kernel_rfl))).2 (by decide)
  exact specs_value (R := MixS 19 62 #[.int .i64 sp, .int .i64 (t * t * lo), .int .i64 (t * t * hi)] (t16V t A1 k c1 py ps sp lo hi) 19) (v := .slice (some ⟨W.heap.size, 0, none⟩) 1 1) (W' := W.alloc (.cells #[.int .i64 sp, .int .i64 (t * t * lo), .int .i64 (t * t * hi)] 62)) (by simp [execOp, hop, go_sem, ev e4]) ⟨fun _ => ⟨_, rfl, row_last _ _ _ rfl⟩, fun h => absurd rfl h⟩ ((Below.refl _ W).alloc (Nat.le_refl _) _)

set_option maxRecDepth 100000 in
set_option maxHeartbeats 4000000 in
/-- The statement of region 16. -/
theorem t16_wp {Q : Exit → Act → World → Prop} {a : Act} {V wb : World} {xs : List (Int × Int × Int)} {c0 u : Value} (hlen : a.tmps.size = 214) (o9 : a.eval (.tmp 9) = .int .i64 t) (o11 : a.eval (.tmp 11) = .pointer (some ⟨py, 0, none⟩)) (o15 : a.eval (.tmp 15) = .pointer (some ⟨ps, 0, none⟩)) (rx : V.heap[py]? = some (.cells #[c0, u, .slice A1 k c1] 25 (0, 0))) (rs : V.heap[ps]? = some (.cells #[.int .i64 sp, .int .i64 lo, .int .i64 hi] 62 (0, 0))) (w0 : IntKind.i64.wrap (t * t) = t * t) (w1 : IntKind.i64.wrap (t * t * lo) = t * t * lo) (w2 : IntKind.i64.wrap (t * t * hi) = t * t * hi)
    (hown : V.ownsRow wb.heap.size 62 3 (.slice A1 k c1) k (xs.flatMap encD)) (hk : k ≤ 1000) (hE : Ext wb V) (hbp : wb.heap.size ≤ py)
    (K : ∀ g5 g cap V', V'.ownsRow wb.heap.size 62 3 (.slice (some ⟨g, 0, none⟩) (k + 1) cap) (k + 1) ((xs ++ [(sp, t * t * lo, t * t * hi)]).flatMap encD) → V'.heap[py]? = some (.cells #[c0, u, .slice (some ⟨g, 0, none⟩) (k + 1) cap] 25 (0, 0)) →
      (∀ b, b < V.heap.size → b ≠ py → some b ≠ (Value.slice A1 k c1).ownBlock → V'.heap[b]? = V.heap[b]?) → ((Value.slice A1 k c1).ownBlock = some g ∨ V.heap.size ≤ g) → V.heap.size ≤ V'.heap.size → Ext wb V' →
      Q .normal (puts a [(101, .pointer (some ⟨py, 2, none⟩)), (102, .slice A1 k c1), (103, .pointer (some ⟨ps, 0, none⟩)), (104, .int .i64 sp), (105, .int .i64 t), (106, .int .i64 t), (107, .int .i64 (t * t)), (108, .pointer (some ⟨ps, 1, none⟩)), (109, .pointer (some ⟨ps, 1, none⟩)), (110, .int .i64 lo), (111, .int .i64 (t * t * lo)), (112, .int .i64 t), (113, .int .i64 t), (114, .int .i64 (t * t)), (115, .pointer (some ⟨ps, 1, none⟩)), (116, .pointer (some ⟨ps, 2, none⟩)), (117, .int .i64 hi), (118, .int .i64 (t * t * hi)), (119, .agg #[.int .i64 sp, .int .i64 (t * t * lo), .int .i64 (t * t * hi)]), (120, .slice (some ⟨g5, 0, none⟩) 1 1), (121, .slice (some ⟨g, 0, none⟩) (k + 1) cap), (122, .pointer (some ⟨py, 2, none⟩))]) V') :
    (Code.region 16 t16Reg true).wp Try.prog Q a V := by
  have cx : ∀ W, Ext V W → W.cell? ⟨py, 2, none⟩ = some (.slice A1 k c1) := fun W h => cell_of_row _ _ _ _ _ _ (row_ext rx h)
  have cs0 : ∀ W, Ext V W → W.cell? ⟨ps, 0, none⟩ = some (.int .i64 sp) := fun W h => cell_of_row _ _ _ _ _ _ (row_ext rs h)
  have cs1 : ∀ W, Ext V W → W.cell? ⟨ps, 1, none⟩ = some (.int .i64 lo) := fun W h => cell_of_row _ _ _ _ _ _ (row_ext rs h)
  have cs2 : ∀ W, Ext V W → W.cell? ⟨ps, 2, none⟩ = some (.int .i64 hi) := fun W h => cell_of_row _ _ _ _ _ _ (row_ext rs h)
  have k49 := fun (W : World) (_ : Ext V W) => on_any sp (t * t * lo) (t * t * hi) W
  refine wp_region_specs_sink (ops := t16Reg) 20 (MixS 19 62 #[.int .i64 sp, .int .i64 (t * t * lo), .int .i64 (t * t * hi)] (t16V t A1 k c1 py ps sp lo hi)) (Ext V) (by kernel_rfl) (by rw [hlen]; kernel_rfl) (by kernel_rfl) ⟨rfl, rfl, rfl, Nat.le_refl _, fun _ _ => rfl⟩ (fun _ _ h e => h.trans e) mixS_ext t16D (by kernel_rfl) ?_ ?_
  · intro i o hi ho a W hB hsz hold haft
    match i, hi with
    | 0, _ => exact mix_pure (by decide) (t16_op0 ((hold 11 (by kernel_rfl)).trans o11) ho)
    | 1, _ => exact mix_pure (by decide) (t16_op1 cx hB (mix_after (op_at ho (fun o => o.after.any fun e => decide (e.on = 19) && Region.binds .any e) (x := false) (by kernel_rfl)) haft) ho)
    | 2, _ => exact mix_pure (by decide) (t16_op2 ((hold 15 (by kernel_rfl)).trans o15) ho)
    | 3, _ => exact mix_pure (by decide) (t16_op3 cs0 hB (mix_after (op_at ho (fun o => o.after.any fun e => decide (e.on = 19) && Region.binds .any e) (x := false) (by kernel_rfl)) haft) ho)
    | 4, _ => exact mix_pure (by decide) (t16_op4 ((hold 9 (by kernel_rfl)).trans o9) ho)
    | 5, _ => exact mix_pure (by decide) (t16_op5 ((hold 9 (by kernel_rfl)).trans o9) ho)
    | 6, _ => exact mix_pure (by decide) (t16_op6 w0 (mix_after (op_at ho (fun o => o.after.any fun e => decide (e.on = 19) && Region.binds .any e) (x := false) (by kernel_rfl)) haft) ho)
    | 7, _ => exact mix_pure (by decide) (t16_op7 ((hold 15 (by kernel_rfl)).trans o15) ho)
    | 8, _ => exact mix_pure (by decide) (t16_op8 (mix_after (op_at ho (fun o => o.after.any fun e => decide (e.on = 19) && Region.binds .any e) (x := false) (by kernel_rfl)) haft) ho)
    | 9, _ => exact mix_pure (by decide) (t16_op9 cs1 hB (mix_after (op_at ho (fun o => o.after.any fun e => decide (e.on = 19) && Region.binds .any e) (x := false) (by kernel_rfl)) haft) ho)
    | 10, _ => exact mix_pure (by decide) (t16_op10 w1 (mix_after (op_at ho (fun o => o.after.any fun e => decide (e.on = 19) && Region.binds .any e) (x := false) (by kernel_rfl)) haft) ho)
    | 11, _ => exact mix_pure (by decide) (t16_op11 ((hold 9 (by kernel_rfl)).trans o9) ho)
    | 12, _ => exact mix_pure (by decide) (t16_op12 ((hold 9 (by kernel_rfl)).trans o9) ho)
    | 13, _ => exact mix_pure (by decide) (t16_op13 w0 (mix_after (op_at ho (fun o => o.after.any fun e => decide (e.on = 19) && Region.binds .any e) (x := false) (by kernel_rfl)) haft) ho)
    | 14, _ => exact mix_pure (by decide) (t16_op14 ((hold 15 (by kernel_rfl)).trans o15) ho)
    | 15, _ => exact mix_pure (by decide) (t16_op15 (mix_after (op_at ho (fun o => o.after.any fun e => decide (e.on = 19) && Region.binds .any e) (x := false) (by kernel_rfl)) haft) ho)
    | 16, _ => exact mix_pure (by decide) (t16_op16 cs2 hB (mix_after (op_at ho (fun o => o.after.any fun e => decide (e.on = 19) && Region.binds .any e) (x := false) (by kernel_rfl)) haft) ho)
    | 17, _ => exact mix_pure (by decide) (t16_op17 w2 (mix_after (op_at ho (fun o => o.after.any fun e => decide (e.on = 19) && Region.binds .any e) (x := false) (by kernel_rfl)) haft) ho)
    | 18, _ => exact mix_pure (by decide) (t16_op18 k49 hB (mix_after (op_at ho (fun o => o.after.any fun e => decide (e.on = 19) && Region.binds .any e) (x := false) (by kernel_rfl)) haft) ho)
    | 19, _ => exact t16_build haft ho
    | m + 20, h => exact absurd h (by omega)
  · intro a1 W hB hsz hdf hold hS
    obtain ⟨g5, e5, hnew⟩ := (hS 19 (by omega)).1 rfl
    have hlen1 : a1.tmps.size = 214 := hsz.trans hlen
    have hall : ∀ z, z ∈ ([(101, .pointer (some ⟨py, 2, none⟩)), (102, .slice A1 k c1), (103, .pointer (some ⟨ps, 0, none⟩)), (104, .int .i64 sp), (105, .int .i64 t), (106, .int .i64 t), (107, .int .i64 (t * t)), (108, .pointer (some ⟨ps, 1, none⟩)), (109, .pointer (some ⟨ps, 1, none⟩)), (110, .int .i64 lo), (111, .int .i64 (t * t * lo)), (112, .int .i64 t), (113, .int .i64 t), (114, .int .i64 (t * t)), (115, .pointer (some ⟨ps, 1, none⟩)), (116, .pointer (some ⟨ps, 2, none⟩)), (117, .int .i64 hi), (118, .int .i64 (t * t * hi)), (119, .agg #[.int .i64 sp, .int .i64 (t * t * lo), .int .i64 (t * t * hi)]), (120, .slice (some ⟨g5, 0, none⟩) 1 1)] : List (Tmp × Value)) → z.1 < a.tmps.size ∧ a1.eval (.tmp z.1) = z.2 := by
      intro z hz
      rw [hlen]
      simp only [List.mem_cons, List.not_mem_nil, or_false] at hz
      rcases hz with rfl | rfl | rfl | rfl | rfl | rfl | rfl | rfl | rfl | rfl | rfl | rfl | rfl | rfl | rfl | rfl | rfl | rfl | rfl | rfl
      · exact ⟨(show (101 : Nat) < 214 by omega), (hS 0 (by omega)).2 (by decide)⟩
      · exact ⟨(show (102 : Nat) < 214 by omega), (hS 1 (by omega)).2 (by decide)⟩
      · exact ⟨(show (103 : Nat) < 214 by omega), (hS 2 (by omega)).2 (by decide)⟩
      · exact ⟨(show (104 : Nat) < 214 by omega), (hS 3 (by omega)).2 (by decide)⟩
      · exact ⟨(show (105 : Nat) < 214 by omega), (hS 4 (by omega)).2 (by decide)⟩
      · exact ⟨(show (106 : Nat) < 214 by omega), (hS 5 (by omega)).2 (by decide)⟩
      · exact ⟨(show (107 : Nat) < 214 by omega), (hS 6 (by omega)).2 (by decide)⟩
      · exact ⟨(show (108 : Nat) < 214 by omega), (hS 7 (by omega)).2 (by decide)⟩
      · exact ⟨(show (109 : Nat) < 214 by omega), (hS 8 (by omega)).2 (by decide)⟩
      · exact ⟨(show (110 : Nat) < 214 by omega), (hS 9 (by omega)).2 (by decide)⟩
      · exact ⟨(show (111 : Nat) < 214 by omega), (hS 10 (by omega)).2 (by decide)⟩
      · exact ⟨(show (112 : Nat) < 214 by omega), (hS 11 (by omega)).2 (by decide)⟩
      · exact ⟨(show (113 : Nat) < 214 by omega), (hS 12 (by omega)).2 (by decide)⟩
      · exact ⟨(show (114 : Nat) < 214 by omega), (hS 13 (by omega)).2 (by decide)⟩
      · exact ⟨(show (115 : Nat) < 214 by omega), (hS 14 (by omega)).2 (by decide)⟩
      · exact ⟨(show (116 : Nat) < 214 by omega), (hS 15 (by omega)).2 (by decide)⟩
      · exact ⟨(show (117 : Nat) < 214 by omega), (hS 16 (by omega)).2 (by decide)⟩
      · exact ⟨(show (118 : Nat) < 214 by omega), (hS 17 (by omega)).2 (by decide)⟩
      · exact ⟨(show (119 : Nat) < 214 by omega), (hS 18 (by omega)).2 (by decide)⟩
      · exact ⟨(show (120 : Nat) < 214 by omega), e5⟩
    have ha := act_puts hsz hdf hall (fun t ht => hold t (all_ne_of (l := [(101, .pointer (some ⟨py, 2, none⟩)), (102, .slice A1 k c1), (103, .pointer (some ⟨ps, 0, none⟩)), (104, .int .i64 sp), (105, .int .i64 t), (106, .int .i64 t), (107, .int .i64 (t * t)), (108, .pointer (some ⟨ps, 1, none⟩)), (109, .pointer (some ⟨ps, 1, none⟩)), (110, .int .i64 lo), (111, .int .i64 (t * t * lo)), (112, .int .i64 t), (113, .int .i64 t), (114, .int .i64 (t * t)), (115, .pointer (some ⟨ps, 1, none⟩)), (116, .pointer (some ⟨ps, 2, none⟩)), (117, .int .i64 hi), (118, .int .i64 (t * t * hi)), (119, .agg #[.int .i64 sp, .int .i64 (t * t * lo), .int .i64 (t * t * hi)]), (120, .slice (some ⟨g5, 0, none⟩) 1 1)]) (by kernel_rfl) ht))
    obtain ⟨o1, o2, o3, hdr, h1, h2, h3⟩ : ∃ o1 o2 o3, t16Reg.toList.drop 20 = [o1, o2, o3] ∧ t16Reg[20]? = some o1 ∧ t16Reg[21]? = some o2 ∧ t16Reg[22]? = some o3 := by
      have hs : t16Reg.size = 23 := by kernel_rfl
      refine ⟨t16Reg[20], t16Reg[21], t16Reg[22], ?_, Array.getElem?_eq_getElem _, Array.getElem?_eq_getElem _, Array.getElem?_eq_getElem _⟩
      rw [List.drop_eq_getElem_cons (by simp [hs]), List.drop_eq_getElem_cons (by simp [hs]), List.drop_eq_getElem_cons (by simp [hs]), List.drop_eq_nil_of_le (by simp [hs])]
      simp
    rw [hdr]
    obtain ⟨i0, hi0, hz0, hz1, hz2⟩ := info_parts info62b
    refine wp_tail_field (op_at h1 (·.guard) (x := none) (by kernel_rfl)) (op_at h2 (·.guard) (x := none) (by kernel_rfl)) (op_at h3 (·.guard) (x := none) (by kernel_rfl))
      (op_at h1 (·.op) (x := .call { callee := .builtin .append, args := #[.tmp 102, .tmp 120], argTypes := #[23, 23] }) (by kernel_rfl)) (op_at h2 (·.op) (x := .fieldAddr 25 (.tmp 11) 2) (by kernel_rfl)) (op_at h3 (·.op) (x := .store 23 (.tmp 122) (.tmp 121)) (by kernel_rfl))
      (op_at h1 (·.dst) (x := some 121) (by kernel_rfl)) (op_at h2 (·.dst) (x := some 122) (by kernel_rfl)) (op_at h3 (·.dst) (x := none) (by kernel_rfl)) (by rw [hlen1]; decide) (by rw [hlen1]; decide) (by decide) (by decide) (by decide) (by decide) Try.underlying23 hi0 hz0 hz1 hz2 rfl (by decide)
      ((hS 1 (by omega)).2 (by decide)) (owns_ext hown hB) e5 hnew rfl (by simp [Value.oneCell']) hk (by decide) (hE.trans hB) ((hold 11 (by kernel_rfl)).trans o11) (row_ext rx hB) hbp (by decide) ?_
    intro g cap V' k1 k2 k3 k4 k5 k6
    rw [ha]
    refine K g5 g cap V' ?_ k2 (fun b hb hne hnb => (k3 b (Nat.lt_of_lt_of_le hb hB.size) hne hnb).trans (hB.block b hb)) (k4.imp id fun e => by rw [e]; exact hB.size) (Nat.le_trans hB.size k5) k6
    rw [List.flatMap_append]
    exact k1
end
end Go.Proofs.Ytckndnaohggmhaa

/- DropTurned: the statement that makes the baths x and y, and those that ask of x. -/
namespace Go.Proofs.Ytckndnaohggmhaa
open Go.RowKit Go.Shelf

/-- The other wall. -/
theorem wall_any (p : Int) (w : World) (h1 : -2 ≤ p) (h2 : p ≤ 1000) : Calls Try.prog 52 #[.int .i64 p] w fun e w' => e = .returned (.int .i64 (wallOf p)) ∧ Below w.heap.size w w' := by
  by_cases h : p < 0
  · have e : wallOf p = -3 - p := if_pos h
    rw [e]
    go_enter Try.func52, Try.ntmps52
    go_wp2
    go_ret
    exact ⟨rfl, Below.refl _ _⟩
  · have e : wallOf p = p := if_neg h
    rw [e]
    go_enter Try.func52, Try.ntmps52
    go_wp2
    go_ret
    exact ⟨rfl, Below.refl _ _⟩

theorem puts_rest {n : Nat} {D : Nat → Tmp} {l : List (Tmp × Value)} {a a1 : Act} (h : ((List.range n).all fun i => l.any (fun x => decide (x.1 = D i)) || decide ((1000 : Nat) ≤ D i)) = true) (hsz : a1.tmps.size = a.tmps.size) (hlen : a.tmps.size = 214)
    (hold : ∀ t, ((List.range n).all fun i => decide (D i ≠ t)) = true → a1.eval (.tmp t) = a.eval (.tmp t)) (t : Tmp) (ht : t ∉ l.map (·.1)) : a1.eval (.tmp t) = a.eval (.tmp t) := by
  by_cases h1000 : (t : Nat) < (1000 : Nat)
  · refine hold t ?_
    rw [List.all_eq_true] at h ⊢
    intro i hi
    rcases Bool.or_eq_true_iff.1 (h i hi) with h2 | h2
    · obtain ⟨x, hx, hx2⟩ := List.any_eq_true.1 h2
      refine decide_eq_true fun e => ht ?_
      rw [← e, ← of_decide_eq_true hx2]
      exact List.mem_map_of_mem hx
    · have h3 : (1000 : Nat) ≤ D i := of_decide_eq_true h2
      exact decide_eq_true fun e => by rw [e] at h3; exact Nat.lt_irrefl _ (Nat.lt_of_lt_of_le h1000 h3)
  · have h3 : (1000 : Nat) ≤ t := Nat.le_of_not_lt h1000
    have h4 : (214 : Nat) ≤ t := Nat.le_trans (by decide) h3
    have e1 : a1.tmps[t]? = none := Array.getElem?_eq_none (by rw [hsz, hlen]; exact h4)
    have e2 : a.tmps[t]? = none := Array.getElem?_eq_none (by rw [hlen]; exact h4)
    simp [Act.eval, e1, e2]

/-- Those that yield a value that is known. -/
def t5P (i : Nat) : Bool := decide (i < 10)
/-- The slots. -/
def t5D (i : Nat) : Tmp := if i < 10 then 40 + i else if i < 12 then i else 1000 + i
/-- What each operation yields. -/
def t5V (Wd t : Int) (A' : Option Addr) (n' c' : Nat) (p : Nat) (ix : Nat) : Value :=
  match ix with
  | 0 => .pointer (some ⟨p, 0, none⟩)
  | 1 => .int .i64 Wd
  | 2 => .pointer (some ⟨p, 2, none⟩)
  | 3 => .slice A' n' c'
  | 4 => (.agg #[.int .i64 Wd, .slice none 0 0, .slice A' n' c'] : Value)
  | 5 => .int .i64 t
  | 6 => .pointer (some ⟨p, 0, none⟩)
  | 7 => .int .i64 Wd
  | 8 => .int .i64 (t * Wd)
  | 9 => (.agg #[.int .i64 (t * Wd), .slice none 0 0, .slice none 0 0] : Value)
  | _ => .bool true
noncomputable def t5Reg : Array Oper := (Try.f12.body.bind (regionOf · 5)).getD #[]
def t5Ok (Wd t : Int) (A' : Option Addr) (n' c' : Nat) (p : Nat) (Q : Exit → Act → World → Prop) (a : Act) (W : World) (ix : Nat) (o : Oper) : Prop :=
  (∀ j b, o.guard = some (j, b) → a.eval (.tmp (t5D j)) = .bool b) ∧ o.wp Try.prog a W (fun a'' W' => ∃ v, a'' = a.put o.dst v ∧ v = t5V Wd t A' n' c' p ix ∧ Below W.heap.size W W') Q

section
variable {Wd t : Int} {A' : Option Addr} {n' c' : Nat} {p : Nat} {Q : Exit → Act → World → Prop} {a : Act} {V W : World} {o : Oper}
theorem t5_op0 (o3 : a.eval (.tmp 3) = .pointer (some ⟨p, 0, none⟩)) (ho : t5Reg[0]? = some o) : t5Ok Wd t A' n' c' p Q a W 0 o := by
  have hop := op_at ho (·.op) (x := .fieldAddr 25 (.tmp 3) 0) (by kernel_rfl)
  have hgd := op_at ho (·.guard) (x := none) (by kernel_rfl)
  refine ⟨fun j b h => (by rw [hgd] at h; cases h), ?_⟩
  exact specs_value (R := fun v _ => v = t5V Wd t A' n' c' p 0) (v := .pointer (some ⟨p, 0, none⟩)) (by simp [execOp, hop, go_sem, ev o3]) rfl (Ext.refl W)
theorem t5_op1 (cb : ∀ W, Ext V W → W.cell? ⟨p, 0, none⟩ = some (.int .i64 Wd)) (hB : Ext V W) (haft : ∀ j, (o.after.any fun e => decide (e.on = j) && Region.binds .any e) = true → t5P j = true → a.eval (.tmp (t5D j)) = t5V Wd t A' n' c' p j) (ho : t5Reg[1]? = some o) : t5Ok Wd t A' n' c' p Q a W 1 o := by
  have hop := op_at ho (·.op) (x := .load 2 (.tmp 40)) (by kernel_rfl)
  have hgd := op_at ho (·.guard) (x := none) (by kernel_rfl)
  have e0 : a.eval (.tmp 40) = .pointer (some ⟨p, 0, none⟩) := haft 0 (op_at ho (fun o => o.after.any fun e => decide (e.on = 0) && Region.binds .any e) (x := true) (by kernel_rfl)) rfl
  refine ⟨fun j b h => (by rw [hgd] at h; cases h), ?_⟩
  have cb' := cb W hB
  exact specs_value (R := fun v _ => v = t5V Wd t A' n' c' p 1) (v := .int .i64 Wd) (by simp [execOp, hop, go_sem, ev e0, cb']) rfl (Ext.refl W)
theorem t5_op2 (o3 : a.eval (.tmp 3) = .pointer (some ⟨p, 0, none⟩)) (ho : t5Reg[2]? = some o) : t5Ok Wd t A' n' c' p Q a W 2 o := by
  have hop := op_at ho (·.op) (x := .fieldAddr 25 (.tmp 3) 2) (by kernel_rfl)
  have hgd := op_at ho (·.guard) (x := none) (by kernel_rfl)
  refine ⟨fun j b h => (by rw [hgd] at h; cases h), ?_⟩
  exact specs_value (R := fun v _ => v = t5V Wd t A' n' c' p 2) (v := .pointer (some ⟨p, 2, none⟩)) (by simp [execOp, hop, go_sem, ev o3]) rfl (Ext.refl W)
theorem t5_op3 (cd : ∀ W, Ext V W → W.cell? ⟨p, 2, none⟩ = some (.slice A' n' c')) (hB : Ext V W) (haft : ∀ j, (o.after.any fun e => decide (e.on = j) && Region.binds .any e) = true → t5P j = true → a.eval (.tmp (t5D j)) = t5V Wd t A' n' c' p j) (ho : t5Reg[3]? = some o) : t5Ok Wd t A' n' c' p Q a W 3 o := by
  have hop := op_at ho (·.op) (x := .load 23 (.tmp 42)) (by kernel_rfl)
  have hgd := op_at ho (·.guard) (x := none) (by kernel_rfl)
  have e2 : a.eval (.tmp 42) = .pointer (some ⟨p, 2, none⟩) := haft 2 (op_at ho (fun o => o.after.any fun e => decide (e.on = 2) && Region.binds .any e) (x := true) (by kernel_rfl)) rfl
  refine ⟨fun j b h => (by rw [hgd] at h; cases h), ?_⟩
  have cd' := cd W hB
  exact specs_value (R := fun v _ => v = t5V Wd t A' n' c' p 3) (v := .slice A' n' c') (by simp [execOp, hop, go_sem, ev e2, cd']) rfl (Ext.refl W)
theorem t5_op4 (haft : ∀ j, (o.after.any fun e => decide (e.on = j) && Region.binds .any e) = true → t5P j = true → a.eval (.tmp (t5D j)) = t5V Wd t A' n' c' p j) (ho : t5Reg[4]? = some o) : t5Ok Wd t A' n' c' p Q a W 4 o := by
  have hop := op_at ho (·.op) (x := .build 25 #[(0, .tmp 41), (2, .tmp 43)]) (by kernel_rfl)
  have hgd := op_at ho (·.guard) (x := none) (by kernel_rfl)
  have e1 : a.eval (.tmp 41) = .int .i64 Wd := haft 1 (op_at ho (fun o => o.after.any fun e => decide (e.on = 1) && Region.binds .any e) (x := true) (by kernel_rfl)) rfl
  have e3 : a.eval (.tmp 43) = .slice A' n' c' := haft 3 (op_at ho (fun o => o.after.any fun e => decide (e.on = 3) && Region.binds .any e) (x := true) (by kernel_rfl)) rfl
  refine ⟨fun j b h => (by rw [hgd] at h; cases h), ?_⟩
  exact specs_value (R := fun v _ => v = t5V Wd t A' n' c' p 4) (v := (.agg #[.int .i64 Wd, .slice none 0 0, .slice A' n' c'] : Value)) (by simp [execOp, hop, go_sem, ev e1, ev e3]) rfl (Ext.refl W)
theorem t5_op5 (o9 : a.eval (.tmp 9) = .int .i64 t) (ho : t5Reg[5]? = some o) : t5Ok Wd t A' n' c' p Q a W 5 o := by
  have hop := op_at ho (·.op) (x := .move (.tmp 9)) (by kernel_rfl)
  have hgd := op_at ho (·.guard) (x := none) (by kernel_rfl)
  refine ⟨fun j b h => (by rw [hgd] at h; cases h), ?_⟩
  exact specs_value (R := fun v _ => v = t5V Wd t A' n' c' p 5) (v := .int .i64 t) (by simp [execOp, hop, go_sem, ev o9]) rfl (Ext.refl W)
theorem t5_op6 (o3 : a.eval (.tmp 3) = .pointer (some ⟨p, 0, none⟩)) (ho : t5Reg[6]? = some o) : t5Ok Wd t A' n' c' p Q a W 6 o := by
  have hop := op_at ho (·.op) (x := .fieldAddr 25 (.tmp 3) 0) (by kernel_rfl)
  have hgd := op_at ho (·.guard) (x := none) (by kernel_rfl)
  refine ⟨fun j b h => (by rw [hgd] at h; cases h), ?_⟩
  exact specs_value (R := fun v _ => v = t5V Wd t A' n' c' p 6) (v := .pointer (some ⟨p, 0, none⟩)) (by simp [execOp, hop, go_sem, ev o3]) rfl (Ext.refl W)
theorem t5_op7 (cb : ∀ W, Ext V W → W.cell? ⟨p, 0, none⟩ = some (.int .i64 Wd)) (hB : Ext V W) (haft : ∀ j, (o.after.any fun e => decide (e.on = j) && Region.binds .any e) = true → t5P j = true → a.eval (.tmp (t5D j)) = t5V Wd t A' n' c' p j) (ho : t5Reg[7]? = some o) : t5Ok Wd t A' n' c' p Q a W 7 o := by
  have hop := op_at ho (·.op) (x := .load 2 (.tmp 46)) (by kernel_rfl)
  have hgd := op_at ho (·.guard) (x := none) (by kernel_rfl)
  have e6 : a.eval (.tmp 46) = .pointer (some ⟨p, 0, none⟩) := haft 6 (op_at ho (fun o => o.after.any fun e => decide (e.on = 6) && Region.binds .any e) (x := true) (by kernel_rfl)) rfl
  refine ⟨fun j b h => (by rw [hgd] at h; cases h), ?_⟩
  have cb' := cb W hB
  exact specs_value (R := fun v _ => v = t5V Wd t A' n' c' p 7) (v := .int .i64 Wd) (by simp [execOp, hop, go_sem, ev e6, cb']) rfl (Ext.refl W)
theorem t5_op8 (w1 : IntKind.i64.wrap (t * Wd) = t * Wd) (haft : ∀ j, (o.after.any fun e => decide (e.on = j) && Region.binds .any e) = true → t5P j = true → a.eval (.tmp (t5D j)) = t5V Wd t A' n' c' p j) (ho : t5Reg[8]? = some o) : t5Ok Wd t A' n' c' p Q a W 8 o := by
  have hop := op_at ho (·.op) (x := .binOp .mul 2 (.tmp 45) (.tmp 47) 2) (by kernel_rfl)
  have hgd := op_at ho (·.guard) (x := none) (by kernel_rfl)
  have e5 : a.eval (.tmp 45) = .int .i64 t := haft 5 (op_at ho (fun o => o.after.any fun e => decide (e.on = 5) && Region.binds .any e) (x := true) (by kernel_rfl)) rfl
  have e7 : a.eval (.tmp 47) = .int .i64 Wd := haft 7 (op_at ho (fun o => o.after.any fun e => decide (e.on = 7) && Region.binds .any e) (x := true) (by kernel_rfl)) rfl
  refine ⟨fun j b h => (by rw [hgd] at h; cases h), ?_⟩
  exact specs_value (R := fun v _ => v = t5V Wd t A' n' c' p 8) (v := .int .i64 (t * Wd)) (by simp [execOp, hop, go_sem, ev e5, ev e7, w1]) rfl (Ext.refl W)
theorem t5_op9 (haft : ∀ j, (o.after.any fun e => decide (e.on = j) && Region.binds .any e) = true → t5P j = true → a.eval (.tmp (t5D j)) = t5V Wd t A' n' c' p j) (ho : t5Reg[9]? = some o) : t5Ok Wd t A' n' c' p Q a W 9 o := by
  have hop := op_at ho (·.op) (x := .build 25 #[(0, .tmp 48)]) (by kernel_rfl)
  have hgd := op_at ho (·.guard) (x := none) (by kernel_rfl)
  have e8 : a.eval (.tmp 48) = .int .i64 (t * Wd) := haft 8 (op_at ho (fun o => o.after.any fun e => decide (e.on = 8) && Region.binds .any e) (x := true) (by kernel_rfl)) rfl
  refine ⟨fun j b h => (by rw [hgd] at h; cases h), ?_⟩
  exact specs_value (R := fun v _ => v = t5V Wd t A' n' c' p 9) (v := (.agg #[.int .i64 (t * Wd), .slice none 0 0, .slice none 0 0] : Value)) (by simp [execOp, hop, go_sem, ev e8]) rfl (Ext.refl W)




end

/-- What x and y are while the statement runs. -/
def t5Mem (X Y : Array Value) (V : World) (L : Nat → Bool) (a : Act) (W : World) : Prop :=
  (L 12 = true → L 10 = true) ∧ (L 13 = true → L 11 = true) ∧
  (L 10 = true → ∃ g, a.eval (.tmp 10) = .pointer (some ⟨g, 0, none⟩) ∧ V.heap.size ≤ g ∧ W.heap[g]? = some (.cells (bif L 12 then X else #[.int .i64 0, .slice none 0 0, .slice none 0 0]) 25 (0, 0))) ∧
  (L 11 = true → ∃ g, a.eval (.tmp 11) = .pointer (some ⟨g, 0, none⟩) ∧ V.heap.size ≤ g ∧ W.heap[g]? = some (.cells (bif L 13 then Y else #[.int .i64 0, .slice none 0 0, .slice none 0 0]) 25 (0, 0))) ∧
  (L 10 = true → L 11 = true → a.eval (.tmp 10) ≠ a.eval (.tmp 11))
theorem heap_setRow_other (W : World) (g b : Nat) (cs : Array Value) (hne : b ≠ g) : (W.setRow g cs).heap[b]? = W.heap[b]? := by
  simp only [World.setRow]
  rw [Array.getElem?_modify, if_neg (fun e => hne e.symm)]

section
variable {Wd t : Int} {A' : Option Addr} {n' c' : Nat} {p : Nat}
set_option maxRecDepth 100000 in
set_option maxHeartbeats 4000000 in
/-- The statement of region 5. -/
theorem t5_wp {Q : Exit → Act → World → Prop} {a : Act} {V : World} (hlen : a.tmps.size = 214) (o3 : a.eval (.tmp 3) = .pointer (some ⟨p, 0, none⟩)) (o9 : a.eval (.tmp 9) = .int .i64 t) {b1 : Value} (rb : V.heap[p]? = some (.cells #[.int .i64 Wd, b1, .slice A' n' c'] 25 (0, 0))) (w1 : IntKind.i64.wrap (t * Wd) = t * Wd)
    (K : ∀ px py W, V.heap.size ≤ px → V.heap.size ≤ py → px ≠ py → Ext V W → W.heap[px]? = some (.cells #[.int .i64 Wd, .slice none 0 0, .slice A' n' c'] 25 (0, 0)) → W.heap[py]? = some (.cells #[.int .i64 (t * Wd), .slice none 0 0, .slice none 0 0] 25 (0, 0)) → Q .normal (puts a [(40, .pointer (some ⟨p, 0, none⟩)), (41, .int .i64 Wd), (42, .pointer (some ⟨p, 2, none⟩)), (43, .slice A' n' c'), (44, (.agg #[.int .i64 Wd, .slice none 0 0, .slice A' n' c'] : Value)), (45, .int .i64 t), (46, .pointer (some ⟨p, 0, none⟩)), (47, .int .i64 Wd), (48, .int .i64 (t * Wd)), (49, (.agg #[.int .i64 (t * Wd), .slice none 0 0, .slice none 0 0] : Value)), (10, .pointer (some ⟨px, 0, none⟩)), (11, .pointer (some ⟨py, 0, none⟩))]) W) :
    (Code.region 5 t5Reg true).wp Try.prog Q a V := by
  have cb : ∀ W, Ext V W → W.cell? ⟨p, 0, none⟩ = some (.int .i64 Wd) := fun W h => cell_of_row _ _ _ _ _ _ (row_ext rb h)
  have cd : ∀ W, Ext V W → W.cell? ⟨p, 2, none⟩ = some (.slice A' n' c') := fun W h => cell_of_row _ _ _ _ _ _ (row_ext rb h)
  refine wp_region_mem (ops := t5Reg) (W0 := V) t5P (t5V Wd t A' n' c' p) t5D (t5Mem #[.int .i64 Wd, .slice none 0 0, .slice A' n' c'] #[.int .i64 (t * Wd), .slice none 0 0, .slice none 0 0] V) (by kernel_rfl) (by rw [hlen]; kernel_rfl) ⟨rfl, rfl, rfl, Nat.le_refl _, fun _ _ => rfl⟩ ⟨fun h => (by cases h), fun h => (by cases h), fun h => (by cases h), fun h => (by cases h), fun h => (by cases h)⟩ ?_ ?_ ?_ ?_
  · intro L a' W W' i v hi hp hM hE hB hsz
    have hi10 : i < 10 := by simpa [t5P] using hp
    have e : ∀ k, 10 ≤ k → (decide (k = i) || L k) = L k := fun k hk => by rw [decide_eq_false (by omega)]; rfl
    have e10 : (a'.put (some (t5D i)) v).eval (.tmp 10) = a'.eval (.tmp 10) := eval_put_other (by unfold t5D; rw [if_pos hi10]; intro h; have : (10 : Nat) = 40 + i := h; omega)
    have e11 : (a'.put (some (t5D i)) v).eval (.tmp 11) = a'.eval (.tmp 11) := eval_put_other (by unfold t5D; rw [if_pos hi10]; intro h; have : (11 : Nat) = 40 + i := h; omega)
    unfold t5Mem at hM ⊢
    dsimp only
    rw [e 10 (by omega), e 11 (by omega), e 12 (by omega), e 13 (by omega), e10, e11]
    obtain ⟨m1, m2, m3, m4, m5⟩ := hM
    exact ⟨m1, m2, fun h => by obtain ⟨g, h1, h2, h3⟩ := m3 h; exact ⟨g, h1, h2, row_ext h3 hB⟩, fun h => by obtain ⟨g, h1, h2, h3⟩ := m4 h; exact ⟨g, h1, h2, row_ext h3 hB⟩, m5⟩
  · intro i o ho hp a W hB hsz hold haft
    have hi : i < 14 := (Array.getElem?_eq_some_iff.1 ho).1
    match i, hi with
    | 0, _ => exact (t5_op0 ((hold 3 (by kernel_rfl)).trans o3) ho).2
    | 1, _ => exact (t5_op1 cb hB haft ho).2
    | 2, _ => exact (t5_op2 ((hold 3 (by kernel_rfl)).trans o3) ho).2
    | 3, _ => exact (t5_op3 cd hB haft ho).2
    | 4, _ => exact (t5_op4 haft ho).2
    | 5, _ => exact (t5_op5 ((hold 9 (by kernel_rfl)).trans o9) ho).2
    | 6, _ => exact (t5_op6 ((hold 3 (by kernel_rfl)).trans o3) ho).2
    | 7, _ => exact (t5_op7 cb hB haft ho).2
    | 8, _ => exact (t5_op8 w1 haft ho).2
    | 9, _ => exact (t5_op9 haft ho).2
    | 10, _ => exact absurd hp (by decide)
    | 11, _ => exact absurd hp (by decide)
    | 12, _ => exact absurd hp (by decide)
    | 13, _ => exact absurd hp (by decide)
    | m + 14, h => exact absurd h (by omega)
  · intro i o ho hp L a W hB hsz hold haft hLi hM
    have hix : i < 14 := (Array.getElem?_eq_some_iff.1 ho).1
    match i, hix with
    | 0, _ => exact absurd hp (by decide)
    | 1, _ => exact absurd hp (by decide)
    | 2, _ => exact absurd hp (by decide)
    | 3, _ => exact absurd hp (by decide)
    | 4, _ => exact absurd hp (by decide)
    | 5, _ => exact absurd hp (by decide)
    | 6, _ => exact absurd hp (by decide)
    | 7, _ => exact absurd hp (by decide)
    | 8, _ => exact absurd hp (by decide)
    | 9, _ => exact absurd hp (by decide)
    | 10, _ =>
      have hop := op_at ho (·.op) (x := .alloc 25) (by kernel_rfl)
      have hdst := op_at ho (·.dst) (x := some 10) (by kernel_rfl)
      obtain ⟨m1, m2, m3, m4, m5⟩ := hM
      have hn12 : L 12 = false := by
        cases h : L 12 with
        | false => rfl
        | true => have := m1 h; rw [hLi] at this; cases this
      refine Oper.wp_mono (fun a'' W' hh => ?_) (specs_value (R := fun v W' => v = .pointer (some ⟨W.heap.size, 0, none⟩) ∧ W' = W.alloc (.cells #[.int .i64 0, .slice none 0 0, .slice none 0 0] 25)) (v := .pointer (some ⟨W.heap.size, 0, none⟩)) (W' := W.alloc (.cells #[.int .i64 0, .slice none 0 0, .slice none 0 0] 25)) (by simp [execOp, hop, go_sem]) ⟨rfl, rfl⟩ (ext_alloc W _))
      obtain ⟨v, rfl, ⟨rfl, rfl⟩, hb⟩ := hh
      rw [hdst]
      refine ⟨_, rfl, hB.trans hb, ?_, ?_, ?_, ?_, ?_⟩
      · intro h; have := m1 (by simpa using h); simp
      · intro h; have := m2 (by simpa using h); simpa using this
      · exact fun _ => ⟨W.heap.size, eval_put_same (by rw [hsz, hlen]; decide), hB.size, by have := row_last W (.cells #[.int .i64 0, .slice none 0 0, .slice none 0 0] 25) _ rfl; simpa [hn12] using this⟩
      · exact fun h => by obtain ⟨g, h1, h2, h3⟩ := m4 (by simpa using h); exact ⟨g, (eval_put_other (by decide)).trans h1, h2, row_ext h3 (ext_alloc _ _)⟩
      · exact fun _ h2 e => by
          obtain ⟨g, h3, h4, h5⟩ := m4 (by simpa using h2)
          have e1 : (a.put (some 10) (.pointer (some ⟨W.heap.size, 0, none⟩))).eval (.tmp 10) = .pointer (some ⟨W.heap.size, 0, none⟩) := eval_put_same (by rw [hsz, hlen]; decide)
          have e2 : (a.put (some 10) (.pointer (some ⟨W.heap.size, 0, none⟩))).eval (.tmp 11) = .pointer (some ⟨g, 0, none⟩) := (eval_put_other (by decide)).trans h3
          rw [e1, e2] at e
          have := (Array.getElem?_eq_some_iff.1 h5).1
          injection e with e
          injection e with e
          injection e with e
          omega
    | 11, _ =>
      have hop := op_at ho (·.op) (x := .alloc 25) (by kernel_rfl)
      have hdst := op_at ho (·.dst) (x := some 11) (by kernel_rfl)
      obtain ⟨m1, m2, m3, m4, m5⟩ := hM
      have hn13 : L 13 = false := by
        cases h : L 13 with
        | false => rfl
        | true => have := m2 h; rw [hLi] at this; cases this
      refine Oper.wp_mono (fun a'' W' hh => ?_) (specs_value (R := fun v W' => v = .pointer (some ⟨W.heap.size, 0, none⟩) ∧ W' = W.alloc (.cells #[.int .i64 0, .slice none 0 0, .slice none 0 0] 25)) (v := .pointer (some ⟨W.heap.size, 0, none⟩)) (W' := W.alloc (.cells #[.int .i64 0, .slice none 0 0, .slice none 0 0] 25)) (by simp [execOp, hop, go_sem]) ⟨rfl, rfl⟩ (ext_alloc W _))
      obtain ⟨v, rfl, ⟨rfl, rfl⟩, hb⟩ := hh
      rw [hdst]
      refine ⟨_, rfl, hB.trans hb, ?_, ?_, ?_, ?_, ?_⟩
      · intro h; have := m1 (by simpa using h); simpa using this
      · intro h; have := m2 (by simpa using h); simp
      · exact fun h => by obtain ⟨g, h1, h2, h3⟩ := m3 (by simpa using h); exact ⟨g, (eval_put_other (by decide)).trans h1, h2, row_ext h3 (ext_alloc _ _)⟩
      · exact fun _ => ⟨W.heap.size, eval_put_same (by rw [hsz, hlen]; decide), hB.size, by have := row_last W (.cells #[.int .i64 0, .slice none 0 0, .slice none 0 0] 25) _ rfl; simpa [hn13] using this⟩
      · exact fun h2 _ e => by
          obtain ⟨g, h3, h4, h5⟩ := m3 (by simpa using h2)
          have e1 : (a.put (some 11) (.pointer (some ⟨W.heap.size, 0, none⟩))).eval (.tmp 11) = .pointer (some ⟨W.heap.size, 0, none⟩) := eval_put_same (by rw [hsz, hlen]; decide)
          have e2 : (a.put (some 11) (.pointer (some ⟨W.heap.size, 0, none⟩))).eval (.tmp 10) = .pointer (some ⟨g, 0, none⟩) := (eval_put_other (by decide)).trans h3
          rw [e1, e2] at e
          have := (Array.getElem?_eq_some_iff.1 h5).1
          injection e with e
          injection e with e
          injection e with e
          omega
    | 12, _ =>
      have hop := op_at ho (·.op) (x := .store 25 (.tmp 10) (.tmp 44)) (by kernel_rfl)
      have hdst := op_at ho (·.dst) (x := none) (by kernel_rfl)
      have hL := haft 10 (op_at ho (fun o => o.after.any fun e => decide (e.on = 10) && Region.binds .any e) (x := true) (by kernel_rfl))
      have hv : a.eval (.tmp 44) = .agg #[.int .i64 Wd, .slice none 0 0, .slice A' n' c'] := (haft 4 (op_at ho (fun o => o.after.any fun e => decide (e.on = 4) && Region.binds .any e) (x := true) (by kernel_rfl))).2 rfl
      obtain ⟨m1, m2, m3, m4, m5⟩ := hM
      obtain ⟨g, h1, h2, h3⟩ := m3 hL.1
      refine wp_store_row 25 (.tmp 10) (.tmp 44) hop g #[.int .i64 Wd, .slice none 0 0, .slice A' n' c'] h1 hv 25 _ h3 (by kernel_rfl) (by cases L 12 <;> rfl) (by simp [Value.oneCell']) ?_
      rw [hdst]
      refine ⟨_, rfl, below_setRow hB h2 _, ?_, ?_, ?_, ?_, ?_⟩
      · intro h; simpa using hL.1
      · intro h; have := m2 (by simpa using h); simpa using this
      · exact fun _ => ⟨g, h1, h2, by exact row_setRow _ _ _ _ _ _ h3⟩
      · exact fun h => by
          obtain ⟨g', k1, k2, k3⟩ := m4 (by simpa using h)
          refine ⟨g', k1, k2, ?_⟩
          refine (heap_setRow_other W g g' _ (fun e => ?_)).trans k3
          subst e
          exact m5 hL.1 (by simpa using h) (h1.trans k1.symm)
      · exact fun q1 q2 => m5 (by simpa using q1) (by simpa using q2)
    | 13, _ =>
      have hop := op_at ho (·.op) (x := .store 25 (.tmp 11) (.tmp 49)) (by kernel_rfl)
      have hdst := op_at ho (·.dst) (x := none) (by kernel_rfl)
      have hL := haft 11 (op_at ho (fun o => o.after.any fun e => decide (e.on = 11) && Region.binds .any e) (x := true) (by kernel_rfl))
      have hv : a.eval (.tmp 49) = .agg #[.int .i64 (t * Wd), .slice none 0 0, .slice none 0 0] := (haft 9 (op_at ho (fun o => o.after.any fun e => decide (e.on = 9) && Region.binds .any e) (x := true) (by kernel_rfl))).2 rfl
      obtain ⟨m1, m2, m3, m4, m5⟩ := hM
      obtain ⟨g, h1, h2, h3⟩ := m4 hL.1
      refine wp_store_row 25 (.tmp 11) (.tmp 49) hop g #[.int .i64 (t * Wd), .slice none 0 0, .slice none 0 0] h1 hv 25 _ h3 (by kernel_rfl) (by cases L 13 <;> rfl) (by simp [Value.oneCell']) ?_
      rw [hdst]
      refine ⟨_, rfl, below_setRow hB h2 _, ?_, ?_, ?_, ?_, ?_⟩
      · intro h; have := m1 (by simpa using h); simpa using this
      · intro h; simpa using hL.1
      · exact fun h => by
          obtain ⟨g', k1, k2, k3⟩ := m3 (by simpa using h)
          refine ⟨g', k1, k2, ?_⟩
          refine (heap_setRow_other W g g' _ (fun e => ?_)).trans k3
          subst e
          exact m5 (by simpa using h) hL.1 (k1.trans h1.symm)
      · exact fun _ => ⟨g, h1, h2, by exact row_setRow _ _ _ _ _ _ h3⟩
      · exact fun q1 q2 => m5 (by simpa using q1) (by simpa using q2)
    | m + 14, h => exact absurd h (by omega)
  · intro a1 W hB hsz hdf hold hV hM
    have hz : 14 = t5Reg.size := by kernel_rfl
    have hlen1 : a1.tmps.size = 214 := hsz.trans hlen
    obtain ⟨_, _, m3, m4, m5⟩ := hM
    obtain ⟨px, hact10, x2, x3⟩ := m3 (by rw [← hz]; rfl)
    obtain ⟨py, hact11, y2, y3⟩ := m4 (by rw [← hz]; rfl)
    have hne : px ≠ py := fun e => m5 (by rw [← hz]; rfl) (by rw [← hz]; rfl) (by rw [hact10, hact11, e])
    simp only [show decide (12 < t5Reg.size) = true from by rw [← hz]; rfl, cond_true] at x3
    simp only [show decide (13 < t5Reg.size) = true from by rw [← hz]; rfl, cond_true] at y3
    have hall : ∀ z, z ∈ ([(40, .pointer (some ⟨p, 0, none⟩)), (41, .int .i64 Wd), (42, .pointer (some ⟨p, 2, none⟩)), (43, .slice A' n' c'), (44, (.agg #[.int .i64 Wd, .slice none 0 0, .slice A' n' c'] : Value)), (45, .int .i64 t), (46, .pointer (some ⟨p, 0, none⟩)), (47, .int .i64 Wd), (48, .int .i64 (t * Wd)), (49, (.agg #[.int .i64 (t * Wd), .slice none 0 0, .slice none 0 0] : Value)), (10, .pointer (some ⟨px, 0, none⟩)), (11, .pointer (some ⟨py, 0, none⟩))] : List (Tmp × Value)) → z.1 < a.tmps.size ∧ a1.eval (.tmp z.1) = z.2 := by
      intro z hz2
      rw [hlen]
      simp only [List.mem_cons, List.not_mem_nil, or_false] at hz2
      rcases hz2 with rfl | rfl | rfl | rfl | rfl | rfl | rfl | rfl | rfl | rfl | rfl | rfl
      · exact ⟨(show (40 : Nat) < 214 by omega), hV 0 (by rw [← hz]; omega) rfl⟩
      · exact ⟨(show (41 : Nat) < 214 by omega), hV 1 (by rw [← hz]; omega) rfl⟩
      · exact ⟨(show (42 : Nat) < 214 by omega), hV 2 (by rw [← hz]; omega) rfl⟩
      · exact ⟨(show (43 : Nat) < 214 by omega), hV 3 (by rw [← hz]; omega) rfl⟩
      · exact ⟨(show (44 : Nat) < 214 by omega), hV 4 (by rw [← hz]; omega) rfl⟩
      · exact ⟨(show (45 : Nat) < 214 by omega), hV 5 (by rw [← hz]; omega) rfl⟩
      · exact ⟨(show (46 : Nat) < 214 by omega), hV 6 (by rw [← hz]; omega) rfl⟩
      · exact ⟨(show (47 : Nat) < 214 by omega), hV 7 (by rw [← hz]; omega) rfl⟩
      · exact ⟨(show (48 : Nat) < 214 by omega), hV 8 (by rw [← hz]; omega) rfl⟩
      · exact ⟨(show (49 : Nat) < 214 by omega), hV 9 (by rw [← hz]; omega) rfl⟩
      · exact ⟨(show (10 : Nat) < 214 by omega), hact10⟩
      · exact ⟨(show (11 : Nat) < 214 by omega), hact11⟩
    have ha := act_puts hsz hdf hall (puts_rest (l := [(40, .pointer (some ⟨p, 0, none⟩)), (41, .int .i64 Wd), (42, .pointer (some ⟨p, 2, none⟩)), (43, .slice A' n' c'), (44, (.agg #[.int .i64 Wd, .slice none 0 0, .slice A' n' c'] : Value)), (45, .int .i64 t), (46, .pointer (some ⟨p, 0, none⟩)), (47, .int .i64 Wd), (48, .int .i64 (t * Wd)), (49, (.agg #[.int .i64 (t * Wd), .slice none 0 0, .slice none 0 0] : Value)), (10, .pointer (some ⟨px, 0, none⟩)), (11, .pointer (some ⟨py, 0, none⟩))]) (by kernel_rfl) hsz hlen hold)
    rw [ha]
    exact K px py W x2 y2 hne hB x3 y3
end

/-- Those that yield a value that is known. -/
def t19P (_i : Nat) : Bool := true
/-- The slots. -/
def t19D (i : Nat) : Tmp := if i < 6 then 138 + i else if i = 6 then 137 else if i < 9 then 137 + i else 11 + i
/-- What each operation yields. -/
def t19V (Wd : Int) (X : Option Addr) (n cX : Nat) (A' : Option Addr) (n' c' : Nat) (_px : Nat) (one two : Int) (kd er : Int) (ix : Nat) : Value :=
  match ix with
  | 0 => (.agg #[.int .i64 Wd, .slice X n cX, .slice A' n' c'] : Value)
  | 1 => .int .i64 one
  | 2 => .int .i64 (wallOf one)
  | 3 => .int .i64 two
  | 4 => .int .i64 (wallOf two)
  | 5 => .tuple #[.int .i64 kd, .int .i64 er]
  | 6 => .tuple #[.int .i64 kd, .int .i64 er]
  | 7 => .int .i64 kd
  | 8 => .int .i64 er
  | 9 => .int .i64 kd
  | 10 => .int .i64 er
  | _ => .bool true
noncomputable def t19Reg : Array Oper := (Try.f12.body.bind (regionOf · 19)).getD #[]
def t19Ok (Wd : Int) (X : Option Addr) (n cX : Nat) (A' : Option Addr) (n' c' : Nat) (px : Nat) (one two : Int) (kd er : Int) (Q : Exit → Act → World → Prop) (a : Act) (W : World) (ix : Nat) (o : Oper) : Prop :=
  (∀ j b, o.guard = some (j, b) → a.eval (.tmp (t19D j)) = .bool b) ∧ o.wp Try.prog a W (fun a'' W' => ∃ v, a'' = a.put o.dst v ∧ v = t19V Wd X n cX A' n' c' px one two kd er ix ∧ Below W.heap.size W W') Q

section
variable {Wd : Int} {X : Option Addr} {n cX : Nat} {A' : Option Addr} {n' c' : Nat} {px : Nat} {one two : Int} {kd er : Int} {Q : Exit → Act → World → Prop} {a : Act} {V W : World} {o : Oper}
theorem t19_op0 (o10 : a.eval (.tmp 10) = .pointer (some ⟨px, 0, none⟩)) (q0 : ∀ W, Ext V W → W.cell? ⟨px, 0, none⟩ = some (.int .i64 Wd)) (q1 : ∀ W, Ext V W → W.cell? ⟨px, 1, none⟩ = some (.slice X n cX)) (q2 : ∀ W, Ext V W → W.cell? ⟨px, 2, none⟩ = some (.slice A' n' c')) (hB : Ext V W) (ho : t19Reg[0]? = some o) : t19Ok Wd X n cX A' n' c' px one two kd er Q a W 0 o := by
  have hop := op_at ho (·.op) (x := .load 25 (.tmp 10)) (by kernel_rfl)
  have hgd := op_at ho (·.guard) (x := none) (by kernel_rfl)
  refine ⟨fun j b h => (by rw [hgd] at h; cases h), ?_⟩
  have q0' := q0 W hB
  have q1' := q1 W hB
  have q2' := q2 W hB
  exact specs_value (R := fun v _ => v = t19V Wd X n cX A' n' c' px one two kd er 0) (v := (.agg #[.int .i64 Wd, .slice X n cX, .slice A' n' c'] : Value)) (by simp [execOp, hop, go_sem, ev o10, q0', q1', q2']) rfl (Ext.refl W)
theorem t19_op1 (o7 : a.eval (.tmp 7) = .int .i64 one) (ho : t19Reg[1]? = some o) : t19Ok Wd X n cX A' n' c' px one two kd er Q a W 1 o := by
  have hop := op_at ho (·.op) (x := .move (.tmp 7)) (by kernel_rfl)
  have hgd := op_at ho (·.guard) (x := none) (by kernel_rfl)
  refine ⟨fun j b h => (by rw [hgd] at h; cases h), ?_⟩
  exact specs_value (R := fun v _ => v = t19V Wd X n cX A' n' c' px one two kd er 1) (v := .int .i64 one) (by simp [execOp, hop, go_sem, ev o7]) rfl (Ext.refl W)
theorem t19_op2 (k1 : ∀ W, Ext V W → Calls Try.prog 52 #[.int .i64 one] W fun e w' => e = .returned (.int .i64 (wallOf one)) ∧ Below W.heap.size W w') (hB : Ext V W) (haft : ∀ j, (o.after.any fun e => decide (e.on = j) && Region.binds .any e) = true → t19P j = true → a.eval (.tmp (t19D j)) = t19V Wd X n cX A' n' c' px one two kd er j) (ho : t19Reg[2]? = some o) : t19Ok Wd X n cX A' n' c' px one two kd er Q a W 2 o := by
  have hop := op_at ho (·.op) (x := .call { callee := .value (.func 52), args := #[.tmp 139], argTypes := #[3] }) (by kernel_rfl)
  have hgd := op_at ho (·.guard) (x := none) (by kernel_rfl)
  have e1 : a.eval (.tmp 139) = .int .i64 one := haft 1 (op_at ho (fun o => o.after.any fun e => decide (e.on = 1) && Region.binds .any e) (x := true) (by kernel_rfl)) rfl
  refine ⟨fun j b h => (by rw [hgd] at h; cases h), ?_⟩
  exact specs_call (R := fun v _ => v = t19V Wd X n cX A' n' c' px one two kd er 2) (f := 52) (args := #[.int .i64 one]) (by simp [execOp, hop, go_sem, ev e1]) ((k1 W hB).mono fun e w' h => ⟨_, h.1, rfl, h.2⟩)
theorem t19_op3 (o8 : a.eval (.tmp 8) = .int .i64 two) (ho : t19Reg[3]? = some o) : t19Ok Wd X n cX A' n' c' px one two kd er Q a W 3 o := by
  have hop := op_at ho (·.op) (x := .move (.tmp 8)) (by kernel_rfl)
  have hgd := op_at ho (·.guard) (x := none) (by kernel_rfl)
  refine ⟨fun j b h => (by rw [hgd] at h; cases h), ?_⟩
  exact specs_value (R := fun v _ => v = t19V Wd X n cX A' n' c' px one two kd er 3) (v := .int .i64 two) (by simp [execOp, hop, go_sem, ev o8]) rfl (Ext.refl W)
theorem t19_op4 (k2 : ∀ W, Ext V W → Calls Try.prog 52 #[.int .i64 two] W fun e w' => e = .returned (.int .i64 (wallOf two)) ∧ Below W.heap.size W w') (hB : Ext V W) (haft : ∀ j, (o.after.any fun e => decide (e.on = j) && Region.binds .any e) = true → t19P j = true → a.eval (.tmp (t19D j)) = t19V Wd X n cX A' n' c' px one two kd er j) (ho : t19Reg[4]? = some o) : t19Ok Wd X n cX A' n' c' px one two kd er Q a W 4 o := by
  have hop := op_at ho (·.op) (x := .call { callee := .value (.func 52), args := #[.tmp 141], argTypes := #[3] }) (by kernel_rfl)
  have hgd := op_at ho (·.guard) (x := none) (by kernel_rfl)
  have e3 : a.eval (.tmp 141) = .int .i64 two := haft 3 (op_at ho (fun o => o.after.any fun e => decide (e.on = 3) && Region.binds .any e) (x := true) (by kernel_rfl)) rfl
  refine ⟨fun j b h => (by rw [hgd] at h; cases h), ?_⟩
  exact specs_call (R := fun v _ => v = t19V Wd X n cX A' n' c' px one two kd er 4) (f := 52) (args := #[.int .i64 two]) (by simp [execOp, hop, go_sem, ev e3]) ((k2 W hB).mono fun e w' h => ⟨_, h.1, rfl, h.2⟩)
theorem t19_op5 (kf : ∀ W, Ext V W → Calls Try.prog 21 #[(.agg #[.int .i64 Wd, .slice X n cX, .slice A' n' c'] : Value), .int .i64 (wallOf one), .int .i64 (wallOf two)] W fun e w' => e = .returned (.tuple #[.int .i64 kd, .int .i64 er]) ∧ Below W.heap.size W w') (hB : Ext V W) (haft : ∀ j, (o.after.any fun e => decide (e.on = j) && Region.binds .any e) = true → t19P j = true → a.eval (.tmp (t19D j)) = t19V Wd X n cX A' n' c' px one two kd er j) (ho : t19Reg[5]? = some o) : t19Ok Wd X n cX A' n' c' px one two kd er Q a W 5 o := by
  have hop := op_at ho (·.op) (x := .call { callee := .value (.func 21), args := #[.tmp 138, .tmp 140, .tmp 142], argTypes := #[25, 3, 3] }) (by kernel_rfl)
  have hgd := op_at ho (·.guard) (x := none) (by kernel_rfl)
  have e0 : a.eval (.tmp 138) = (.agg #[.int .i64 Wd, .slice X n cX, .slice A' n' c'] : Value) := haft 0 (op_at ho (fun o => o.after.any fun e => decide (e.on = 0) && Region.binds .any e) (x := true) (by kernel_rfl)) rfl
  have e2 : a.eval (.tmp 140) = .int .i64 (wallOf one) := haft 2 (op_at ho (fun o => o.after.any fun e => decide (e.on = 2) && Region.binds .any e) (x := true) (by kernel_rfl)) rfl
  have e4 : a.eval (.tmp 142) = .int .i64 (wallOf two) := haft 4 (op_at ho (fun o => o.after.any fun e => decide (e.on = 4) && Region.binds .any e) (x := true) (by kernel_rfl)) rfl
  refine ⟨fun j b h => (by rw [hgd] at h; cases h), ?_⟩
  exact specs_call (R := fun v _ => v = t19V Wd X n cX A' n' c' px one two kd er 5) (f := 21) (args := #[(.agg #[.int .i64 Wd, .slice X n cX, .slice A' n' c'] : Value), .int .i64 (wallOf one), .int .i64 (wallOf two)]) (by simp [execOp, hop, go_sem, ev e0, ev e2, ev e4]) ((kf W hB).mono fun e w' h => ⟨_, h.1, rfl, h.2⟩)
theorem t19_op6 (haft : ∀ j, (o.after.any fun e => decide (e.on = j) && Region.binds .any e) = true → t19P j = true → a.eval (.tmp (t19D j)) = t19V Wd X n cX A' n' c' px one two kd er j) (ho : t19Reg[6]? = some o) : t19Ok Wd X n cX A' n' c' px one two kd er Q a W 6 o := by
  have hop := op_at ho (·.op) (x := .move (.tmp 143)) (by kernel_rfl)
  have hgd := op_at ho (·.guard) (x := none) (by kernel_rfl)
  have e5 : a.eval (.tmp 143) = .tuple #[.int .i64 kd, .int .i64 er] := haft 5 (op_at ho (fun o => o.after.any fun e => decide (e.on = 5) && Region.binds .any e) (x := true) (by kernel_rfl)) rfl
  refine ⟨fun j b h => (by rw [hgd] at h; cases h), ?_⟩
  exact specs_value (R := fun v _ => v = t19V Wd X n cX A' n' c' px one two kd er 6) (v := .tuple #[.int .i64 kd, .int .i64 er]) (by simp [execOp, hop, go_sem, ev e5]) rfl (Ext.refl W)
theorem t19_op7 (haft : ∀ j, (o.after.any fun e => decide (e.on = j) && Region.binds .any e) = true → t19P j = true → a.eval (.tmp (t19D j)) = t19V Wd X n cX A' n' c' px one two kd er j) (ho : t19Reg[7]? = some o) : t19Ok Wd X n cX A' n' c' px one two kd er Q a W 7 o := by
  have hop := op_at ho (·.op) (x := .extract (.tmp 137) 0) (by kernel_rfl)
  have hgd := op_at ho (·.guard) (x := none) (by kernel_rfl)
  have e6 : a.eval (.tmp 137) = .tuple #[.int .i64 kd, .int .i64 er] := haft 6 (op_at ho (fun o => o.after.any fun e => decide (e.on = 6) && Region.binds .any e) (x := true) (by kernel_rfl)) rfl
  refine ⟨fun j b h => (by rw [hgd] at h; cases h), ?_⟩
  exact specs_value (R := fun v _ => v = t19V Wd X n cX A' n' c' px one two kd er 7) (v := .int .i64 kd) (by simp [execOp, hop, go_sem, ev e6]) rfl (Ext.refl W)
theorem t19_op8 (haft : ∀ j, (o.after.any fun e => decide (e.on = j) && Region.binds .any e) = true → t19P j = true → a.eval (.tmp (t19D j)) = t19V Wd X n cX A' n' c' px one two kd er j) (ho : t19Reg[8]? = some o) : t19Ok Wd X n cX A' n' c' px one two kd er Q a W 8 o := by
  have hop := op_at ho (·.op) (x := .extract (.tmp 137) 1) (by kernel_rfl)
  have hgd := op_at ho (·.guard) (x := none) (by kernel_rfl)
  have e6 : a.eval (.tmp 137) = .tuple #[.int .i64 kd, .int .i64 er] := haft 6 (op_at ho (fun o => o.after.any fun e => decide (e.on = 6) && Region.binds .any e) (x := true) (by kernel_rfl)) rfl
  refine ⟨fun j b h => (by rw [hgd] at h; cases h), ?_⟩
  exact specs_value (R := fun v _ => v = t19V Wd X n cX A' n' c' px one two kd er 8) (v := .int .i64 er) (by simp [execOp, hop, go_sem, ev e6]) rfl (Ext.refl W)
theorem t19_op9 (haft : ∀ j, (o.after.any fun e => decide (e.on = j) && Region.binds .any e) = true → t19P j = true → a.eval (.tmp (t19D j)) = t19V Wd X n cX A' n' c' px one two kd er j) (ho : t19Reg[9]? = some o) : t19Ok Wd X n cX A' n' c' px one two kd er Q a W 9 o := by
  have hop := op_at ho (·.op) (x := .assign (.tmp 144)) (by kernel_rfl)
  have hgd := op_at ho (·.guard) (x := none) (by kernel_rfl)
  have e7 : a.eval (.tmp 144) = .int .i64 kd := haft 7 (op_at ho (fun o => o.after.any fun e => decide (e.on = 7) && Region.binds .any e) (x := true) (by kernel_rfl)) rfl
  refine ⟨fun j b h => (by rw [hgd] at h; cases h), ?_⟩
  exact specs_value (R := fun v _ => v = t19V Wd X n cX A' n' c' px one two kd er 9) (v := .int .i64 kd) (by simp [execOp, hop, go_sem, ev e7]) rfl (Ext.refl W)
theorem t19_op10 (haft : ∀ j, (o.after.any fun e => decide (e.on = j) && Region.binds .any e) = true → t19P j = true → a.eval (.tmp (t19D j)) = t19V Wd X n cX A' n' c' px one two kd er j) (ho : t19Reg[10]? = some o) : t19Ok Wd X n cX A' n' c' px one two kd er Q a W 10 o := by
  have hop := op_at ho (·.op) (x := .assign (.tmp 145)) (by kernel_rfl)
  have hgd := op_at ho (·.guard) (x := none) (by kernel_rfl)
  have e8 : a.eval (.tmp 145) = .int .i64 er := haft 8 (op_at ho (fun o => o.after.any fun e => decide (e.on = 8) && Region.binds .any e) (x := true) (by kernel_rfl)) rfl
  refine ⟨fun j b h => (by rw [hgd] at h; cases h), ?_⟩
  exact specs_value (R := fun v _ => v = t19V Wd X n cX A' n' c' px one two kd er 10) (v := .int .i64 er) (by simp [execOp, hop, go_sem, ev e8]) rfl (Ext.refl W)
end

section
variable {Wd : Int} {X : Option Addr} {n cX : Nat} {A' : Option Addr} {n' c' : Nat} {px : Nat} {one two : Int} {kd er : Int}
set_option maxRecDepth 100000 in
set_option maxHeartbeats 4000000 in
/-- The statement of region 19. -/
theorem t19_wp {Q : Exit → Act → World → Prop} {a : Act} {V : World} (hlen : a.tmps.size = 214) (o10 : a.eval (.tmp 10) = .pointer (some ⟨px, 0, none⟩)) (o7 : a.eval (.tmp 7) = .int .i64 one) (o8 : a.eval (.tmp 8) = .int .i64 two) (rx : V.heap[px]? = some (.cells #[.int .i64 Wd, .slice X n cX, .slice A' n' c'] 25 (0, 0))) (k1 : ∀ W, Ext V W → Calls Try.prog 52 #[.int .i64 one] W fun e w' => e = .returned (.int .i64 (wallOf one)) ∧ Below W.heap.size W w') (k2 : ∀ W, Ext V W → Calls Try.prog 52 #[.int .i64 two] W fun e w' => e = .returned (.int .i64 (wallOf two)) ∧ Below W.heap.size W w') (kf : ∀ W, Ext V W → Calls Try.prog 21 #[(.agg #[.int .i64 Wd, .slice X n cX, .slice A' n' c'] : Value), .int .i64 (wallOf one), .int .i64 (wallOf two)] W fun e w' => e = .returned (.tuple #[.int .i64 kd, .int .i64 er]) ∧ Below W.heap.size W w')
    (K : ∀ W, Ext V W → Q .normal (puts a [(138, (.agg #[.int .i64 Wd, .slice X n cX, .slice A' n' c'] : Value)), (139, .int .i64 one), (140, .int .i64 (wallOf one)), (141, .int .i64 two), (142, .int .i64 (wallOf two)), (143, .tuple #[.int .i64 kd, .int .i64 er]), (137, .tuple #[.int .i64 kd, .int .i64 er]), (144, .int .i64 kd), (145, .int .i64 er), (20, .int .i64 kd), (21, .int .i64 er)]) W) :
    (Code.region 19 t19Reg true).wp Try.prog Q a V := by
  have q0 : ∀ W, Ext V W → W.cell? ⟨px, 0, none⟩ = some (.int .i64 Wd) := fun W h => cell_of_row _ _ _ _ _ _ (row_ext rx h)
  have q1 : ∀ W, Ext V W → W.cell? ⟨px, 1, none⟩ = some (.slice X n cX) := fun W h => cell_of_row _ _ _ _ _ _ (row_ext rx h)
  have q2 : ∀ W, Ext V W → W.cell? ⟨px, 2, none⟩ = some (.slice A' n' c') := fun W h => cell_of_row _ _ _ _ _ _ (row_ext rx h)
  refine wp_region_mem (ops := t19Reg) (W0 := V) t19P (t19V Wd X n cX A' n' c' px one two kd er) t19D (fun _ _ _ => True) (by kernel_rfl) (by rw [hlen]; kernel_rfl) ⟨rfl, rfl, rfl, Nat.le_refl _, fun _ _ => rfl⟩ trivial ?_ ?_ ?_ ?_
  · intro L a' W W' i v hi hp hM hE hB hsz
    exact trivial
  · intro i o ho hp a W hB hsz hold haft
    have hi : i < 11 := (Array.getElem?_eq_some_iff.1 ho).1
    match i, hi with
    | 0, _ => exact (t19_op0 ((hold 10 (by kernel_rfl)).trans o10) q0 q1 q2 hB ho).2
    | 1, _ => exact (t19_op1 ((hold 7 (by kernel_rfl)).trans o7) ho).2
    | 2, _ => exact (t19_op2 k1 hB haft ho).2
    | 3, _ => exact (t19_op3 ((hold 8 (by kernel_rfl)).trans o8) ho).2
    | 4, _ => exact (t19_op4 k2 hB haft ho).2
    | 5, _ => exact (t19_op5 kf hB haft ho).2
    | 6, _ => exact (t19_op6 haft ho).2
    | 7, _ => exact (t19_op7 haft ho).2
    | 8, _ => exact (t19_op8 haft ho).2
    | 9, _ => exact (t19_op9 haft ho).2
    | 10, _ => exact (t19_op10 haft ho).2
    | m + 11, h => exact absurd h (by omega)
  · intro i o ho hp L a W hB hsz hold haft hLi hM
    have hix : i < 11 := (Array.getElem?_eq_some_iff.1 ho).1
    match i, hix with
    | 0, _ => exact absurd hp (by decide)
    | 1, _ => exact absurd hp (by decide)
    | 2, _ => exact absurd hp (by decide)
    | 3, _ => exact absurd hp (by decide)
    | 4, _ => exact absurd hp (by decide)
    | 5, _ => exact absurd hp (by decide)
    | 6, _ => exact absurd hp (by decide)
    | 7, _ => exact absurd hp (by decide)
    | 8, _ => exact absurd hp (by decide)
    | 9, _ => exact absurd hp (by decide)
    | 10, _ => exact absurd hp (by decide)
    | m + 11, h => exact absurd h (by omega)
  · intro a1 W hB hsz hdf hold hV hM
    have hz : 11 = t19Reg.size := by kernel_rfl
    have hlen1 : a1.tmps.size = 214 := hsz.trans hlen

    have hall : ∀ z, z ∈ ([(138, (.agg #[.int .i64 Wd, .slice X n cX, .slice A' n' c'] : Value)), (139, .int .i64 one), (140, .int .i64 (wallOf one)), (141, .int .i64 two), (142, .int .i64 (wallOf two)), (143, .tuple #[.int .i64 kd, .int .i64 er]), (137, .tuple #[.int .i64 kd, .int .i64 er]), (144, .int .i64 kd), (145, .int .i64 er), (20, .int .i64 kd), (21, .int .i64 er)] : List (Tmp × Value)) → z.1 < a.tmps.size ∧ a1.eval (.tmp z.1) = z.2 := by
      intro z hz2
      rw [hlen]
      simp only [List.mem_cons, List.not_mem_nil, or_false] at hz2
      rcases hz2 with rfl | rfl | rfl | rfl | rfl | rfl | rfl | rfl | rfl | rfl | rfl
      · exact ⟨(show (138 : Nat) < 214 by omega), hV 0 (by rw [← hz]; omega) rfl⟩
      · exact ⟨(show (139 : Nat) < 214 by omega), hV 1 (by rw [← hz]; omega) rfl⟩
      · exact ⟨(show (140 : Nat) < 214 by omega), hV 2 (by rw [← hz]; omega) rfl⟩
      · exact ⟨(show (141 : Nat) < 214 by omega), hV 3 (by rw [← hz]; omega) rfl⟩
      · exact ⟨(show (142 : Nat) < 214 by omega), hV 4 (by rw [← hz]; omega) rfl⟩
      · exact ⟨(show (143 : Nat) < 214 by omega), hV 5 (by rw [← hz]; omega) rfl⟩
      · exact ⟨(show (137 : Nat) < 214 by omega), hV 6 (by rw [← hz]; omega) rfl⟩
      · exact ⟨(show (144 : Nat) < 214 by omega), hV 7 (by rw [← hz]; omega) rfl⟩
      · exact ⟨(show (145 : Nat) < 214 by omega), hV 8 (by rw [← hz]; omega) rfl⟩
      · exact ⟨(show (20 : Nat) < 214 by omega), hV 9 (by rw [← hz]; omega) rfl⟩
      · exact ⟨(show (21 : Nat) < 214 by omega), hV 10 (by rw [← hz]; omega) rfl⟩
    have ha := act_puts hsz hdf hall (puts_rest (l := [(138, (.agg #[.int .i64 Wd, .slice X n cX, .slice A' n' c'] : Value)), (139, .int .i64 one), (140, .int .i64 (wallOf one)), (141, .int .i64 two), (142, .int .i64 (wallOf two)), (143, .tuple #[.int .i64 kd, .int .i64 er]), (137, .tuple #[.int .i64 kd, .int .i64 er]), (144, .int .i64 kd), (145, .int .i64 er), (20, .int .i64 kd), (21, .int .i64 er)]) (by kernel_rfl) hsz hlen hold)
    rw [ha]
    exact K W hB
end

/-- Those that yield a value that is known. -/
def t20P (i : Nat) : Bool := i != 9 && i != 10
/-- The slots. -/
def t20D (i : Nat) : Tmp := if i < 6 then 147 + i else if i = 6 then 146 else if i < 9 then 146 + i else if i = 9 then 22 else if i = 10 then 1010 else 23
/-- What each operation yields. -/
def t20V (Wd : Int) (X : Option Addr) (n cX : Nat) (A' : Option Addr) (n' c' : Nat) (_px : Nat) (one two : Int) (lo hi er : Int) (ix : Nat) : Value :=
  match ix with
  | 0 => (.agg #[.int .i64 Wd, .slice X n cX, .slice A' n' c'] : Value)
  | 1 => .int .i64 one
  | 2 => .int .i64 (wallOf one)
  | 3 => .int .i64 two
  | 4 => .int .i64 (wallOf two)
  | 5 => .tuple #[.agg #[.int .i64 lo, .int .i64 hi], .int .i64 er]
  | 6 => .tuple #[.agg #[.int .i64 lo, .int .i64 hi], .int .i64 er]
  | 7 => .agg #[.int .i64 lo, .int .i64 hi]
  | 8 => .int .i64 er
  | 11 => .int .i64 er
  | _ => .bool true
noncomputable def t20Reg : Array Oper := (Try.f12.body.bind (regionOf · 20)).getD #[]
def t20Ok (Wd : Int) (X : Option Addr) (n cX : Nat) (A' : Option Addr) (n' c' : Nat) (px : Nat) (one two : Int) (lo hi er : Int) (Q : Exit → Act → World → Prop) (a : Act) (W : World) (ix : Nat) (o : Oper) : Prop :=
  (∀ j b, o.guard = some (j, b) → a.eval (.tmp (t20D j)) = .bool b) ∧ o.wp Try.prog a W (fun a'' W' => ∃ v, a'' = a.put o.dst v ∧ v = t20V Wd X n cX A' n' c' px one two lo hi er ix ∧ Below W.heap.size W W') Q

section
variable {Wd : Int} {X : Option Addr} {n cX : Nat} {A' : Option Addr} {n' c' : Nat} {px : Nat} {one two : Int} {lo hi er : Int} {Q : Exit → Act → World → Prop} {a : Act} {V W : World} {o : Oper}
theorem t20_op0 (o10 : a.eval (.tmp 10) = .pointer (some ⟨px, 0, none⟩)) (q0 : ∀ W, Ext V W → W.cell? ⟨px, 0, none⟩ = some (.int .i64 Wd)) (q1 : ∀ W, Ext V W → W.cell? ⟨px, 1, none⟩ = some (.slice X n cX)) (q2 : ∀ W, Ext V W → W.cell? ⟨px, 2, none⟩ = some (.slice A' n' c')) (hB : Ext V W) (ho : t20Reg[0]? = some o) : t20Ok Wd X n cX A' n' c' px one two lo hi er Q a W 0 o := by
  have hop := op_at ho (·.op) (x := .load 25 (.tmp 10)) (by kernel_rfl)
  have hgd := op_at ho (·.guard) (x := none) (by kernel_rfl)
  refine ⟨fun j b h => (by rw [hgd] at h; cases h), ?_⟩
  have q0' := q0 W hB
  have q1' := q1 W hB
  have q2' := q2 W hB
  exact specs_value (R := fun v _ => v = t20V Wd X n cX A' n' c' px one two lo hi er 0) (v := (.agg #[.int .i64 Wd, .slice X n cX, .slice A' n' c'] : Value)) (by simp [execOp, hop, go_sem, ev o10, q0', q1', q2']) rfl (Ext.refl W)
theorem t20_op1 (o7 : a.eval (.tmp 7) = .int .i64 one) (ho : t20Reg[1]? = some o) : t20Ok Wd X n cX A' n' c' px one two lo hi er Q a W 1 o := by
  have hop := op_at ho (·.op) (x := .move (.tmp 7)) (by kernel_rfl)
  have hgd := op_at ho (·.guard) (x := none) (by kernel_rfl)
  refine ⟨fun j b h => (by rw [hgd] at h; cases h), ?_⟩
  exact specs_value (R := fun v _ => v = t20V Wd X n cX A' n' c' px one two lo hi er 1) (v := .int .i64 one) (by simp [execOp, hop, go_sem, ev o7]) rfl (Ext.refl W)
theorem t20_op2 (k1 : ∀ W, Ext V W → Calls Try.prog 52 #[.int .i64 one] W fun e w' => e = .returned (.int .i64 (wallOf one)) ∧ Below W.heap.size W w') (hB : Ext V W) (haft : ∀ j, (o.after.any fun e => decide (e.on = j) && Region.binds .any e) = true → t20P j = true → a.eval (.tmp (t20D j)) = t20V Wd X n cX A' n' c' px one two lo hi er j) (ho : t20Reg[2]? = some o) : t20Ok Wd X n cX A' n' c' px one two lo hi er Q a W 2 o := by
  have hop := op_at ho (·.op) (x := .call { callee := .value (.func 52), args := #[.tmp 148], argTypes := #[3] }) (by kernel_rfl)
  have hgd := op_at ho (·.guard) (x := none) (by kernel_rfl)
  have e1 : a.eval (.tmp 148) = .int .i64 one := haft 1 (op_at ho (fun o => o.after.any fun e => decide (e.on = 1) && Region.binds .any e) (x := true) (by kernel_rfl)) rfl
  refine ⟨fun j b h => (by rw [hgd] at h; cases h), ?_⟩
  exact specs_call (R := fun v _ => v = t20V Wd X n cX A' n' c' px one two lo hi er 2) (f := 52) (args := #[.int .i64 one]) (by simp [execOp, hop, go_sem, ev e1]) ((k1 W hB).mono fun e w' h => ⟨_, h.1, rfl, h.2⟩)
theorem t20_op3 (o8 : a.eval (.tmp 8) = .int .i64 two) (ho : t20Reg[3]? = some o) : t20Ok Wd X n cX A' n' c' px one two lo hi er Q a W 3 o := by
  have hop := op_at ho (·.op) (x := .move (.tmp 8)) (by kernel_rfl)
  have hgd := op_at ho (·.guard) (x := none) (by kernel_rfl)
  refine ⟨fun j b h => (by rw [hgd] at h; cases h), ?_⟩
  exact specs_value (R := fun v _ => v = t20V Wd X n cX A' n' c' px one two lo hi er 3) (v := .int .i64 two) (by simp [execOp, hop, go_sem, ev o8]) rfl (Ext.refl W)
theorem t20_op4 (k2 : ∀ W, Ext V W → Calls Try.prog 52 #[.int .i64 two] W fun e w' => e = .returned (.int .i64 (wallOf two)) ∧ Below W.heap.size W w') (hB : Ext V W) (haft : ∀ j, (o.after.any fun e => decide (e.on = j) && Region.binds .any e) = true → t20P j = true → a.eval (.tmp (t20D j)) = t20V Wd X n cX A' n' c' px one two lo hi er j) (ho : t20Reg[4]? = some o) : t20Ok Wd X n cX A' n' c' px one two lo hi er Q a W 4 o := by
  have hop := op_at ho (·.op) (x := .call { callee := .value (.func 52), args := #[.tmp 150], argTypes := #[3] }) (by kernel_rfl)
  have hgd := op_at ho (·.guard) (x := none) (by kernel_rfl)
  have e3 : a.eval (.tmp 150) = .int .i64 two := haft 3 (op_at ho (fun o => o.after.any fun e => decide (e.on = 3) && Region.binds .any e) (x := true) (by kernel_rfl)) rfl
  refine ⟨fun j b h => (by rw [hgd] at h; cases h), ?_⟩
  exact specs_call (R := fun v _ => v = t20V Wd X n cX A' n' c' px one two lo hi er 4) (f := 52) (args := #[.int .i64 two]) (by simp [execOp, hop, go_sem, ev e3]) ((k2 W hB).mono fun e w' h => ⟨_, h.1, rfl, h.2⟩)
theorem t20_op5 (kf : ∀ W, Ext V W → Calls Try.prog 25 #[(.agg #[.int .i64 Wd, .slice X n cX, .slice A' n' c'] : Value), .int .i64 (wallOf one), .int .i64 (wallOf two)] W fun e w' => e = .returned (.tuple #[.agg #[.int .i64 lo, .int .i64 hi], .int .i64 er]) ∧ Below W.heap.size W w') (hB : Ext V W) (haft : ∀ j, (o.after.any fun e => decide (e.on = j) && Region.binds .any e) = true → t20P j = true → a.eval (.tmp (t20D j)) = t20V Wd X n cX A' n' c' px one two lo hi er j) (ho : t20Reg[5]? = some o) : t20Ok Wd X n cX A' n' c' px one two lo hi er Q a W 5 o := by
  have hop := op_at ho (·.op) (x := .call { callee := .value (.func 25), args := #[.tmp 147, .tmp 149, .tmp 151], argTypes := #[25, 3, 3] }) (by kernel_rfl)
  have hgd := op_at ho (·.guard) (x := none) (by kernel_rfl)
  have e0 : a.eval (.tmp 147) = (.agg #[.int .i64 Wd, .slice X n cX, .slice A' n' c'] : Value) := haft 0 (op_at ho (fun o => o.after.any fun e => decide (e.on = 0) && Region.binds .any e) (x := true) (by kernel_rfl)) rfl
  have e2 : a.eval (.tmp 149) = .int .i64 (wallOf one) := haft 2 (op_at ho (fun o => o.after.any fun e => decide (e.on = 2) && Region.binds .any e) (x := true) (by kernel_rfl)) rfl
  have e4 : a.eval (.tmp 151) = .int .i64 (wallOf two) := haft 4 (op_at ho (fun o => o.after.any fun e => decide (e.on = 4) && Region.binds .any e) (x := true) (by kernel_rfl)) rfl
  refine ⟨fun j b h => (by rw [hgd] at h; cases h), ?_⟩
  exact specs_call (R := fun v _ => v = t20V Wd X n cX A' n' c' px one two lo hi er 5) (f := 25) (args := #[(.agg #[.int .i64 Wd, .slice X n cX, .slice A' n' c'] : Value), .int .i64 (wallOf one), .int .i64 (wallOf two)]) (by simp [execOp, hop, go_sem, ev e0, ev e2, ev e4]) ((kf W hB).mono fun e w' h => ⟨_, h.1, rfl, h.2⟩)
theorem t20_op6 (haft : ∀ j, (o.after.any fun e => decide (e.on = j) && Region.binds .any e) = true → t20P j = true → a.eval (.tmp (t20D j)) = t20V Wd X n cX A' n' c' px one two lo hi er j) (ho : t20Reg[6]? = some o) : t20Ok Wd X n cX A' n' c' px one two lo hi er Q a W 6 o := by
  have hop := op_at ho (·.op) (x := .move (.tmp 152)) (by kernel_rfl)
  have hgd := op_at ho (·.guard) (x := none) (by kernel_rfl)
  have e5 : a.eval (.tmp 152) = .tuple #[.agg #[.int .i64 lo, .int .i64 hi], .int .i64 er] := haft 5 (op_at ho (fun o => o.after.any fun e => decide (e.on = 5) && Region.binds .any e) (x := true) (by kernel_rfl)) rfl
  refine ⟨fun j b h => (by rw [hgd] at h; cases h), ?_⟩
  exact specs_value (R := fun v _ => v = t20V Wd X n cX A' n' c' px one two lo hi er 6) (v := .tuple #[.agg #[.int .i64 lo, .int .i64 hi], .int .i64 er]) (by simp [execOp, hop, go_sem, ev e5]) rfl (Ext.refl W)
theorem t20_op7 (haft : ∀ j, (o.after.any fun e => decide (e.on = j) && Region.binds .any e) = true → t20P j = true → a.eval (.tmp (t20D j)) = t20V Wd X n cX A' n' c' px one two lo hi er j) (ho : t20Reg[7]? = some o) : t20Ok Wd X n cX A' n' c' px one two lo hi er Q a W 7 o := by
  have hop := op_at ho (·.op) (x := .extract (.tmp 146) 0) (by kernel_rfl)
  have hgd := op_at ho (·.guard) (x := none) (by kernel_rfl)
  have e6 : a.eval (.tmp 146) = .tuple #[.agg #[.int .i64 lo, .int .i64 hi], .int .i64 er] := haft 6 (op_at ho (fun o => o.after.any fun e => decide (e.on = 6) && Region.binds .any e) (x := true) (by kernel_rfl)) rfl
  refine ⟨fun j b h => (by rw [hgd] at h; cases h), ?_⟩
  exact specs_value (R := fun v _ => v = t20V Wd X n cX A' n' c' px one two lo hi er 7) (v := .agg #[.int .i64 lo, .int .i64 hi]) (by simp [execOp, hop, go_sem, ev e6]) rfl (Ext.refl W)
theorem t20_op8 (haft : ∀ j, (o.after.any fun e => decide (e.on = j) && Region.binds .any e) = true → t20P j = true → a.eval (.tmp (t20D j)) = t20V Wd X n cX A' n' c' px one two lo hi er j) (ho : t20Reg[8]? = some o) : t20Ok Wd X n cX A' n' c' px one two lo hi er Q a W 8 o := by
  have hop := op_at ho (·.op) (x := .extract (.tmp 146) 1) (by kernel_rfl)
  have hgd := op_at ho (·.guard) (x := none) (by kernel_rfl)
  have e6 : a.eval (.tmp 146) = .tuple #[.agg #[.int .i64 lo, .int .i64 hi], .int .i64 er] := haft 6 (op_at ho (fun o => o.after.any fun e => decide (e.on = 6) && Region.binds .any e) (x := true) (by kernel_rfl)) rfl
  refine ⟨fun j b h => (by rw [hgd] at h; cases h), ?_⟩
  exact specs_value (R := fun v _ => v = t20V Wd X n cX A' n' c' px one two lo hi er 8) (v := .int .i64 er) (by simp [execOp, hop, go_sem, ev e6]) rfl (Ext.refl W)


theorem t20_op11 (haft : ∀ j, (o.after.any fun e => decide (e.on = j) && Region.binds .any e) = true → t20P j = true → a.eval (.tmp (t20D j)) = t20V Wd X n cX A' n' c' px one two lo hi er j) (ho : t20Reg[11]? = some o) : t20Ok Wd X n cX A' n' c' px one two lo hi er Q a W 11 o := by
  have hop := op_at ho (·.op) (x := .assign (.tmp 154)) (by kernel_rfl)
  have hgd := op_at ho (·.guard) (x := none) (by kernel_rfl)
  have e8 : a.eval (.tmp 154) = .int .i64 er := haft 8 (op_at ho (fun o => o.after.any fun e => decide (e.on = 8) && Region.binds .any e) (x := true) (by kernel_rfl)) rfl
  refine ⟨fun j b h => (by rw [hgd] at h; cases h), ?_⟩
  exact specs_value (R := fun v _ => v = t20V Wd X n cX A' n' c' px one two lo hi er 11) (v := .int .i64 er) (by simp [execOp, hop, go_sem, ev e8]) rfl (Ext.refl W)
end

def t20Mem (X : Array Value) (V : World) (L : Nat → Bool) (a : Act) (W : World) : Prop :=
  (L 10 = true → L 9 = true) ∧ (L 9 = true → ∃ g, a.eval (.tmp 22) = .pointer (some ⟨g, 0, none⟩) ∧ V.heap.size ≤ g ∧ W.heap[g]? = some (.cells (bif L 10 then X else #[.int .i64 0, .int .i64 0]) 29 (0, 0)))

section
variable {Wd : Int} {X : Option Addr} {n cX : Nat} {A' : Option Addr} {n' c' : Nat} {px : Nat} {one two : Int} {lo hi er : Int}
set_option maxRecDepth 100000 in
set_option maxHeartbeats 4000000 in
/-- The statement of region 20. -/
theorem t20_wp {Q : Exit → Act → World → Prop} {a : Act} {V : World} (hlen : a.tmps.size = 214) (o10 : a.eval (.tmp 10) = .pointer (some ⟨px, 0, none⟩)) (o7 : a.eval (.tmp 7) = .int .i64 one) (o8 : a.eval (.tmp 8) = .int .i64 two) (rx : V.heap[px]? = some (.cells #[.int .i64 Wd, .slice X n cX, .slice A' n' c'] 25 (0, 0))) (k1 : ∀ W, Ext V W → Calls Try.prog 52 #[.int .i64 one] W fun e w' => e = .returned (.int .i64 (wallOf one)) ∧ Below W.heap.size W w') (k2 : ∀ W, Ext V W → Calls Try.prog 52 #[.int .i64 two] W fun e w' => e = .returned (.int .i64 (wallOf two)) ∧ Below W.heap.size W w') (kf : ∀ W, Ext V W → Calls Try.prog 25 #[(.agg #[.int .i64 Wd, .slice X n cX, .slice A' n' c'] : Value), .int .i64 (wallOf one), .int .i64 (wallOf two)] W fun e w' => e = .returned (.tuple #[.agg #[.int .i64 lo, .int .i64 hi], .int .i64 er]) ∧ Below W.heap.size W w')
    (K : ∀ g W, V.heap.size ≤ g → Ext V W → W.heap[g]? = some (.cells #[.int .i64 lo, .int .i64 hi] 29 (0, 0)) → Q .normal (puts a [(147, (.agg #[.int .i64 Wd, .slice X n cX, .slice A' n' c'] : Value)), (148, .int .i64 one), (149, .int .i64 (wallOf one)), (150, .int .i64 two), (151, .int .i64 (wallOf two)), (152, .tuple #[.agg #[.int .i64 lo, .int .i64 hi], .int .i64 er]), (146, .tuple #[.agg #[.int .i64 lo, .int .i64 hi], .int .i64 er]), (153, .agg #[.int .i64 lo, .int .i64 hi]), (154, .int .i64 er), (23, .int .i64 er), (22, .pointer (some ⟨g, 0, none⟩))]) W) :
    (Code.region 20 t20Reg true).wp Try.prog Q a V := by
  have q0 : ∀ W, Ext V W → W.cell? ⟨px, 0, none⟩ = some (.int .i64 Wd) := fun W h => cell_of_row _ _ _ _ _ _ (row_ext rx h)
  have q1 : ∀ W, Ext V W → W.cell? ⟨px, 1, none⟩ = some (.slice X n cX) := fun W h => cell_of_row _ _ _ _ _ _ (row_ext rx h)
  have q2 : ∀ W, Ext V W → W.cell? ⟨px, 2, none⟩ = some (.slice A' n' c') := fun W h => cell_of_row _ _ _ _ _ _ (row_ext rx h)
  refine wp_region_mem (ops := t20Reg) (W0 := V) t20P (t20V Wd X n cX A' n' c' px one two lo hi er) t20D (t20Mem #[.int .i64 lo, .int .i64 hi] V) (by kernel_rfl) (by rw [hlen]; kernel_rfl) ⟨rfl, rfl, rfl, Nat.le_refl _, fun _ _ => rfl⟩ ⟨fun h => (by cases h), fun h => (by cases h)⟩ ?_ ?_ ?_ ?_
  · intro L a' W W' i v hi hp hM hE hB hsz
    have hi9 : i ≠ 9 ∧ i ≠ 10 := by simpa [t20P] using hp
    have e9 : (decide (9 = i) || L 9) = L 9 := by rw [decide_eq_false (fun e => hi9.1 e.symm)]; rfl
    have e10 : (decide (10 = i) || L 10) = L 10 := by rw [decide_eq_false (fun e => hi9.2 e.symm)]; rfl
    have hi12 : i < 12 := by rw [show (12 : Nat) = t20Reg.size from by kernel_rfl]; exact hi
    have e22 : (a'.put (some (t20D i)) v).eval (.tmp 22) = a'.eval (.tmp 22) := eval_put_other (by
      have hall : ((List.range 12).all fun i => decide (i = 9) || decide ((22 : Tmp) ≠ t20D i)) = true := by kernel_rfl
      have := List.all_eq_true.1 hall i (List.mem_range.2 hi12)
      simpa [hi9.1] using this)
    unfold t20Mem at hM ⊢
    dsimp only
    rw [e9, e10, e22]
    exact ⟨hM.1, fun h => by obtain ⟨g, h1, h2, h3⟩ := hM.2 h; exact ⟨g, h1, h2, row_ext h3 hB⟩⟩
  · intro i o ho hp a W hB hsz hold haft
    have hi : i < 12 := (Array.getElem?_eq_some_iff.1 ho).1
    match i, hi with
    | 0, _ => exact (t20_op0 ((hold 10 (by kernel_rfl)).trans o10) q0 q1 q2 hB ho).2
    | 1, _ => exact (t20_op1 ((hold 7 (by kernel_rfl)).trans o7) ho).2
    | 2, _ => exact (t20_op2 k1 hB haft ho).2
    | 3, _ => exact (t20_op3 ((hold 8 (by kernel_rfl)).trans o8) ho).2
    | 4, _ => exact (t20_op4 k2 hB haft ho).2
    | 5, _ => exact (t20_op5 kf hB haft ho).2
    | 6, _ => exact (t20_op6 haft ho).2
    | 7, _ => exact (t20_op7 haft ho).2
    | 8, _ => exact (t20_op8 haft ho).2
    | 9, _ => exact absurd hp (by decide)
    | 10, _ => exact absurd hp (by decide)
    | 11, _ => exact (t20_op11 haft ho).2
    | m + 12, h => exact absurd h (by omega)
  · intro i o ho hp L a W hB hsz hold haft hLi hM
    have hix : i < 12 := (Array.getElem?_eq_some_iff.1 ho).1
    match i, hix with
    | 0, _ => exact absurd hp (by decide)
    | 1, _ => exact absurd hp (by decide)
    | 2, _ => exact absurd hp (by decide)
    | 3, _ => exact absurd hp (by decide)
    | 4, _ => exact absurd hp (by decide)
    | 5, _ => exact absurd hp (by decide)
    | 6, _ => exact absurd hp (by decide)
    | 7, _ => exact absurd hp (by decide)
    | 8, _ => exact absurd hp (by decide)
    | 9, _ =>
      have hop := op_at ho (·.op) (x := .alloc 29) (by kernel_rfl)
      have hdst := op_at ho (·.dst) (x := some 22) (by kernel_rfl)
      have hn : L 10 = false := by
        cases h : L 10 with
        | false => rfl
        | true => have := hM.1 h; rw [hLi] at this; cases this
      refine Oper.wp_mono (fun a'' W' hh => ?_) (specs_value (R := fun v W' => v = .pointer (some ⟨W.heap.size, 0, none⟩) ∧ W' = W.alloc (.cells #[.int .i64 0, .int .i64 0] 29)) (v := .pointer (some ⟨W.heap.size, 0, none⟩)) (W' := W.alloc (.cells #[.int .i64 0, .int .i64 0] 29)) (by simp [execOp, hop, go_sem]) ⟨rfl, rfl⟩ (ext_alloc W _))
      obtain ⟨v, rfl, ⟨rfl, rfl⟩, hb⟩ := hh
      rw [hdst]
      refine ⟨_, rfl, hB.trans hb, ?_, ?_⟩
      · intro h; simp
      · exact fun _ => ⟨W.heap.size, eval_put_same (by rw [hsz, hlen]; decide), hB.size, by have := row_last W (.cells #[.int .i64 0, .int .i64 0] 29) _ rfl; simpa [hn] using this⟩
    | 10, _ =>
      have hop := op_at ho (·.op) (x := .store 29 (.tmp 22) (.tmp 153)) (by kernel_rfl)
      have hdst := op_at ho (·.dst) (x := none) (by kernel_rfl)
      have hL := haft 9 (op_at ho (fun o => o.after.any fun e => decide (e.on = 9) && Region.binds .any e) (x := true) (by kernel_rfl))
      have hv : a.eval (.tmp 153) = .agg #[.int .i64 lo, .int .i64 hi] := (haft 7 (op_at ho (fun o => o.after.any fun e => decide (e.on = 7) && Region.binds .any e) (x := true) (by kernel_rfl))).2 rfl
      obtain ⟨g, h1, h2, h3⟩ := hM.2 hL.1
      refine wp_store_row 29 (.tmp 22) (.tmp 153) hop g #[.int .i64 lo, .int .i64 hi] h1 hv 29 _ h3 (by kernel_rfl) (by cases L 10 <;> rfl) (by simp [Value.oneCell']) ?_
      rw [hdst]
      refine ⟨_, rfl, below_setRow hB h2 _, ?_, ?_⟩
      · intro h; simpa using hL.1
      · exact fun _ => ⟨g, h1, h2, by exact row_setRow _ _ _ _ _ _ h3⟩
    | 11, _ => exact absurd hp (by decide)
    | m + 12, h => exact absurd h (by omega)
  · intro a1 W hB hsz hdf hold hV hM
    have hz : 12 = t20Reg.size := by kernel_rfl
    have hlen1 : a1.tmps.size = 214 := hsz.trans hlen
    obtain ⟨_, m2⟩ := hM
    obtain ⟨g, hact22, x2, x3⟩ := m2 (by rw [← hz]; rfl)
    simp only [show decide (10 < t20Reg.size) = true from by rw [← hz]; rfl, cond_true] at x3
    have hall : ∀ z, z ∈ ([(147, (.agg #[.int .i64 Wd, .slice X n cX, .slice A' n' c'] : Value)), (148, .int .i64 one), (149, .int .i64 (wallOf one)), (150, .int .i64 two), (151, .int .i64 (wallOf two)), (152, .tuple #[.agg #[.int .i64 lo, .int .i64 hi], .int .i64 er]), (146, .tuple #[.agg #[.int .i64 lo, .int .i64 hi], .int .i64 er]), (153, .agg #[.int .i64 lo, .int .i64 hi]), (154, .int .i64 er), (23, .int .i64 er), (22, .pointer (some ⟨g, 0, none⟩))] : List (Tmp × Value)) → z.1 < a.tmps.size ∧ a1.eval (.tmp z.1) = z.2 := by
      intro z hz2
      rw [hlen]
      simp only [List.mem_cons, List.not_mem_nil, or_false] at hz2
      rcases hz2 with rfl | rfl | rfl | rfl | rfl | rfl | rfl | rfl | rfl | rfl | rfl
      · exact ⟨(show (147 : Nat) < 214 by omega), hV 0 (by rw [← hz]; omega) rfl⟩
      · exact ⟨(show (148 : Nat) < 214 by omega), hV 1 (by rw [← hz]; omega) rfl⟩
      · exact ⟨(show (149 : Nat) < 214 by omega), hV 2 (by rw [← hz]; omega) rfl⟩
      · exact ⟨(show (150 : Nat) < 214 by omega), hV 3 (by rw [← hz]; omega) rfl⟩
      · exact ⟨(show (151 : Nat) < 214 by omega), hV 4 (by rw [← hz]; omega) rfl⟩
      · exact ⟨(show (152 : Nat) < 214 by omega), hV 5 (by rw [← hz]; omega) rfl⟩
      · exact ⟨(show (146 : Nat) < 214 by omega), hV 6 (by rw [← hz]; omega) rfl⟩
      · exact ⟨(show (153 : Nat) < 214 by omega), hV 7 (by rw [← hz]; omega) rfl⟩
      · exact ⟨(show (154 : Nat) < 214 by omega), hV 8 (by rw [← hz]; omega) rfl⟩
      · exact ⟨(show (23 : Nat) < 214 by omega), hV 11 (by rw [← hz]; omega) rfl⟩
      · exact ⟨(show (22 : Nat) < 214 by omega), hact22⟩
    have ha := act_puts hsz hdf hall (puts_rest (l := [(147, (.agg #[.int .i64 Wd, .slice X n cX, .slice A' n' c'] : Value)), (148, .int .i64 one), (149, .int .i64 (wallOf one)), (150, .int .i64 two), (151, .int .i64 (wallOf two)), (152, .tuple #[.agg #[.int .i64 lo, .int .i64 hi], .int .i64 er]), (146, .tuple #[.agg #[.int .i64 lo, .int .i64 hi], .int .i64 er]), (153, .agg #[.int .i64 lo, .int .i64 hi]), (154, .int .i64 er), (23, .int .i64 er), (22, .pointer (some ⟨g, 0, none⟩))]) (by kernel_rfl) hsz hlen hold)
    rw [ha]
    exact K g W x2 hB x3
end
end Go.Proofs.Ytckndnaohggmhaa
