/- Texts of the package drop, joined: DropTurned. -/
import Derived.Test.YtckndnaohggmhaaC49
import Derived.Test.YtckndnaohggmhaaC71
import Derived.Deep.CutRange
import Derived.Laws.Tables
import Derived.StillTailTactics
/- DropTurned: the walk. -/
namespace Go.Proofs.Ytckndnaohggmhaa
open Go.RowKit Go.Shelf

theorem own_stay {V V' : World} {base : Nat} {e : TypeId} {size n : Nat} {v : Value} {xs : List Value} (h : V.ownsRow base e size v n xs) (hs : ∀ g, v.ownBlock = some g → V'.heap[g]? = V.heap[g]?) : V'.ownsRow base e size v n xs := by
  refine ⟨h.1, h.2.imp id ?_⟩
  rintro ⟨g, cap, cur, rfl, hb, hrow, q⟩
  exact ⟨g, cap, cur, rfl, hb, (hs g rfl).trans hrow, q⟩
theorem own_type {W : World} {base : Nat} {e : TypeId} {size n : Nat} {v : Value} {xs : List Value} (h : W.ownsRow base e size v n xs) {g p : Nat} {cs : Array Value} {t : TypeId} {fr : Nat × Nat} (hg : v.ownBlock = some g) (hp : W.heap[p]? = some (.cells cs t fr)) (ht : t ≠ e) : g ≠ p := by
  rintro rfl
  obtain ⟨cs', fr', hr⟩ := own_block h g hg
  rw [hp] at hr
  simp only [Option.some.injEq, Obj.cells.injEq] at hr
  exact ht hr.2.1
theorem flat_at2 {α : Type} (enc : α → List Value) (k : Nat) (hk : ∀ x, (enc x).length = k) : ∀ (ds : List α) (j : Nat) (x : α) (i : Nat) (v : Value), ds[j]? = some x → (enc x)[i]? = some v → (ds.flatMap enc)[j * k + i]? = some v
  | [], _, _, _, _, h, _ => by simp at h
  | d :: ds, 0, x, i, v, h, hi => by
    simp at h
    subst h
    rw [List.flatMap_cons, Nat.zero_mul, Nat.zero_add, List.getElem?_append_left (List.getElem?_eq_some_iff.1 hi).1]
    exact hi
  | d :: ds, j + 1, x, i, v, h, hi => by
    rw [List.flatMap_cons, List.getElem?_append_right (by rw [hk, Nat.succ_mul]; omega), hk, show (j + 1) * k + i - k = j * k + i from by rw [Nat.succ_mul]; omega]
    exact flat_at2 enc k hk ds j x i v (by simpa using h) hi
theorem own_held {α : Type} {W : World} {base k n c : Nat} {e : TypeId} {enc : α → List Value} (hk : ∀ x, (enc x).length = k) {A : Option Addr} {xs : List α} (hx : n = xs.length) (h : W.ownsRow base e k (.slice A n c) n (xs.flatMap enc)) : Held W W.heap.size k enc A xs ∧ n ≤ c := by
  rcases h.2 with ⟨h0, h1⟩ | ⟨g, cap, cur, h0, _, hg, h1, h2, h3, h4⟩
  · cases h0
    exact ⟨.inl (List.eq_nil_of_length_eq_zero hx.symm), Nat.le_refl _⟩
  · cases h0
    refine ⟨.inr ⟨g, 0, rfl, (Array.getElem?_eq_some_iff.1 hg).1, fun j x hj i v hi => ?_⟩, h1⟩
    have h5 := flat_at2 enc k hk xs j x i v hj hi
    refine (cell_of_row _ _ _ _ _ _ hg).trans ?_
    rw [← h4, List.getElem?_take] at h5
    split at h5
    · rw [Nat.zero_add]; simpa using h5
    · cases h5

/-- x and y while spots are put on them: both have slices of their own, in different blocks. -/
structure Both (base px py : Nat) (c0 d0 u u' : Value) (xs ys : List (Int × Int)) (W : World) (X : Option Addr) (cX : Nat) (Y : Option Addr) (cY : Nat) : Prop where
  rx : W.heap[px]? = some (.cells #[c0, .slice X xs.length cX, u] 25 (0, 0))
  ry : W.heap[py]? = some (.cells #[d0, .slice Y ys.length cY, u'] 25 (0, 0))
  ox : W.ownsRow base 74 2 (.slice X xs.length cX) xs.length (xs.flatMap encS)
  oy : W.ownsRow base 74 2 (.slice Y ys.length cY) ys.length (ys.flatMap encS)
  dis : ∀ g, (Value.slice X xs.length cX).ownBlock = some g → (Value.slice Y ys.length cY).ownBlock ≠ some g
theorem Both.ext {base px py : Nat} {c0 d0 u u' : Value} {xs ys : List (Int × Int)} {W W' : World} {X : Option Addr} {cX : Nat} {Y : Option Addr} {cY : Nat} (h : Both base px py c0 d0 u u' xs ys W X cX Y cY) (e : Ext W W') : Both base px py c0 d0 u u' xs ys W' X cX Y cY :=
  ⟨row_ext h.rx e, row_ext h.ry e, owns_ext h.ox e, owns_ext h.oy e, h.dis⟩
/-- One spot more on x. -/
theorem Both.addX {base px py : Nat} {c0 d0 u u' : Value} {xs ys : List (Int × Int)} {V V' : World} {X : Option Addr} {cX : Nat} {Y : Option Addr} {cY : Nat} {s : Int × Int} {g cap : Nat} (h : Both base px py c0 d0 u u' xs ys V X cX Y cY) (hne : px ≠ py)
    (k1 : V'.ownsRow base 74 2 (.slice (some ⟨g, 0, none⟩) (xs.length + 1) cap) (xs.length + 1) ((xs ++ [s]).flatMap encS)) (k2 : V'.heap[px]? = some (.cells #[c0, .slice (some ⟨g, 0, none⟩) (xs.length + 1) cap, u] 25 (0, 0)))
    (k3 : ∀ b, b < V.heap.size → b ≠ px → some b ≠ (Value.slice X xs.length cX).ownBlock → V'.heap[b]? = V.heap[b]?) (k4 : (Value.slice X xs.length cX).ownBlock = some g ∨ V.heap.size ≤ g) :
    Both base px py c0 d0 u u' (xs ++ [s]) ys V' (some ⟨g, 0, none⟩) cap Y cY := by
  have hl : (xs ++ [s]).length = xs.length + 1 := by simp
  have hy : ∀ b, (Value.slice Y ys.length cY).ownBlock = some b → V'.heap[b]? = V.heap[b]? := fun b hb => k3 b (own_lt h.oy b hb).2 (own_type h.oy hb h.rx (by decide)) (fun e => h.dis b e.symm hb)
  refine ⟨by rw [hl]; exact k2, (k3 py (Array.getElem?_eq_some_iff.1 h.ry).1 (fun e => hne e.symm) (fun e => own_type h.ox e.symm h.ry (by decide) rfl)).trans h.ry, by rw [hl]; exact k1, own_stay h.oy hy, fun b hb hb2 => ?_⟩
  simp only [Value.ownBlock, Option.some.injEq] at hb
  subst hb
  rcases k4 with e | e
  · exact h.dis _ e hb2
  · have := (own_lt h.oy _ hb2).2
    omega
/-- One spot more on y. -/
theorem Both.addY {base px py : Nat} {c0 d0 u u' : Value} {xs ys : List (Int × Int)} {V V' : World} {X : Option Addr} {cX : Nat} {Y : Option Addr} {cY : Nat} {s : Int × Int} {g cap : Nat} (h : Both base px py c0 d0 u u' xs ys V X cX Y cY) (hne : px ≠ py)
    (k1 : V'.ownsRow base 74 2 (.slice (some ⟨g, 0, none⟩) (ys.length + 1) cap) (ys.length + 1) ((ys ++ [s]).flatMap encS)) (k2 : V'.heap[py]? = some (.cells #[d0, .slice (some ⟨g, 0, none⟩) (ys.length + 1) cap, u'] 25 (0, 0)))
    (k3 : ∀ b, b < V.heap.size → b ≠ py → some b ≠ (Value.slice Y ys.length cY).ownBlock → V'.heap[b]? = V.heap[b]?) (k4 : (Value.slice Y ys.length cY).ownBlock = some g ∨ V.heap.size ≤ g) :
    Both base px py c0 d0 u u' xs (ys ++ [s]) V' X cX (some ⟨g, 0, none⟩) cap := by
  have hl : (ys ++ [s]).length = ys.length + 1 := by simp
  have hx : ∀ b, (Value.slice X xs.length cX).ownBlock = some b → V'.heap[b]? = V.heap[b]? := fun b hb => k3 b (own_lt h.ox b hb).2 (own_type h.ox hb h.ry (by decide)) (fun e => h.dis b hb e.symm)
  refine ⟨(k3 px (Array.getElem?_eq_some_iff.1 h.rx).1 hne (fun e => own_type h.oy e.symm h.rx (by decide) rfl)).trans h.rx, by rw [hl]; exact k2, own_stay h.ox hx, by rw [hl]; exact k1, fun b hb hb2 => ?_⟩
  simp only [Value.ownBlock, Option.some.injEq] at hb2
  subst hb2
  rcases k4 with e | e
  · exact h.dis _ hb e
  · have := (own_lt h.ox _ hb).2
    omega
/-- y while drops are put on it. -/
structure Third (base px py : Nat) (c0 d0 u : Value) (xs ys : List (Int × Int)) (es : List (Int × Int × Int)) (W : World) (X : Option Addr) (cX : Nat) (Y : Option Addr) (cY : Nat) (U : Option Addr) (cU : Nat) : Prop where
  both : Both base px py c0 d0 u (.slice U es.length cU) xs ys W X cX Y cY
  ou : W.ownsRow base 62 3 (.slice U es.length cU) es.length (es.flatMap encD)
theorem Third.ext {base px py : Nat} {c0 d0 u : Value} {xs ys : List (Int × Int)} {es : List (Int × Int × Int)} {W W' : World} {X : Option Addr} {cX : Nat} {Y : Option Addr} {cY : Nat} {U : Option Addr} {cU : Nat} (h : Third base px py c0 d0 u xs ys es W X cX Y cY U cU) (e : Ext W W') : Third base px py c0 d0 u xs ys es W' X cX Y cY U cU :=
  ⟨h.both.ext e, owns_ext h.ou e⟩
theorem Third.add {base px py : Nat} {c0 d0 u : Value} {xs ys : List (Int × Int)} {es : List (Int × Int × Int)} {V V' : World} {X : Option Addr} {cX : Nat} {Y : Option Addr} {cY : Nat} {U : Option Addr} {cU : Nat} {s : Int × Int × Int} {g cap : Nat} (h : Third base px py c0 d0 u xs ys es V X cX Y cY U cU) (hne : px ≠ py)
    (k1 : V'.ownsRow base 62 3 (.slice (some ⟨g, 0, none⟩) (es.length + 1) cap) (es.length + 1) ((es ++ [s]).flatMap encD)) (k2 : V'.heap[py]? = some (.cells #[d0, .slice Y ys.length cY, .slice (some ⟨g, 0, none⟩) (es.length + 1) cap] 25 (0, 0)))
    (k3 : ∀ b, b < V.heap.size → b ≠ py → some b ≠ (Value.slice U es.length cU).ownBlock → V'.heap[b]? = V.heap[b]?) :
    Third base px py c0 d0 u xs ys (es ++ [s]) V' X cX Y cY (some ⟨g, 0, none⟩) cap := by
  have hl : (es ++ [s]).length = es.length + 1 := by simp
  have far : ∀ (v : Value) (n : Nat) (zs : List Value), V.ownsRow base 74 2 v n zs → ∀ b, v.ownBlock = some b → V'.heap[b]? = V.heap[b]? := fun v n zs ho b hb => k3 b (own_lt ho b hb).2 (own_type ho hb h.both.ry (by decide)) (fun e => by
    obtain ⟨cs, fr, hr⟩ := own_block h.ou b e.symm
    exact own_type ho hb hr (by decide) rfl)
  exact ⟨⟨(k3 px (Array.getElem?_eq_some_iff.1 h.both.rx).1 hne (fun e => own_type h.ou e.symm h.both.rx (by decide) rfl)).trans h.both.rx, by rw [hl]; exact k2, own_stay h.both.ox (far _ _ _ h.both.ox), own_stay h.both.oy (far _ _ _ h.both.oy), h.both.dis⟩, by rw [hl]; exact k1⟩

/-- x, as a bath. -/
theorem Third.bathX {base px py : Nat} {Wd : Int} {d0 : Value} {A A' : Option Addr} {n c n' c' : Nat} {ss xs ys : List (Int × Int)} {ds es : List (Int × Int × Int)} {W : World} {X : Option Addr} {cX : Nat} {Y : Option Addr} {cY : Nat} {U : Option Addr} {cU : Nat}
    (h : Third base px py (.int .i64 Wd) d0 (.slice A' n' c') xs ys es W X cX Y cY U cU) (hb : IsBath W W.heap.size A n c A' n' c' ss ds) (_ : xs.length = ss.length) (hl : xs.length ≤ 10) : IsBath W W.heap.size X xs.length cX A' n' c' xs ds :=
  have hx := own_held (enc := encS) (fun _ => rfl) rfl h.both.ox
  ⟨rfl, hb.nds, by omega, hb.nle', hx.2, hb.cap', hx.1, hb.hds⟩
/-- y, as a bath. -/
theorem Third.bathY {base px py : Nat} {c0 d0 u : Value} {xs ys : List (Int × Int)} {es : List (Int × Int × Int)} {W : World} {X : Option Addr} {cX : Nat} {Y : Option Addr} {cY : Nat} {U : Option Addr} {cU : Nat}
    (h : Third base px py c0 d0 u xs ys es W X cX Y cY U cU) (hl : ys.length ≤ 10) (hl2 : es.length ≤ 40) : IsBath W W.heap.size Y ys.length cY U es.length cU ys es :=
  have hy := own_held (enc := encS) (fun _ => rfl) rfl h.both.oy
  have hu := own_held (enc := encD) (fun _ => rfl) rfl h.ou
  ⟨rfl, rfl, by omega, by omega, hy.2, hu.2, hy.1, hu.1⟩

theorem map_take_snoc {α β : Type} (f : α → β) (l : List α) (d : α) {k : Nat} (h : k < l.length) : (l.take (k + 1)).map f = (l.take k).map f ++ [f (l.getD k d)] := by
  rw [List.take_succ_eq_append_getElem h, List.map_append]
  simp [List.getElem?_eq_getElem h]

theorem bath_wd {Wd : Int} {ss : List (Int × Int)} {ds : List (Int × Int × Int)} (h : bathErr Wd ss ds = 0) : 2 ≤ Wd ∧ Wd ≤ 1000 := by
  have := (bath_ok h).1
  omega

section
variable {w : World} {Wd : Int} {A : Option Addr} {n c : Nat} {A' : Option Addr} {n' c' : Nat} {ss : List (Int × Int)} {ds : List (Int × Int × Int)}

set_option maxRecDepth 100000 in
set_option maxHeartbeats 8000000 in
theorem dropTurned_any (x y tm : Int) (hx : 0 ≤ x ∧ x ≤ 255) (hy : 0 ≤ y ∧ y ≤ 255) (htm : 0 ≤ tm ∧ tm ≤ 255) (hb : IsBath w w.heap.size A n c A' n' c' ss ds) :
    Calls Try.prog 12 #[.agg #[.int .i64 Wd, .slice A n c, .slice A' n' c'], .agg #[.int .u8 x, .int .u8 y], .int .u8 tm] w fun e w' => e = .returned (.bool true) ∧ Ext w w' := by
  have hX0 : BathAt (w.alloc (.cells #[.int .i64 Wd, .slice A n c, .slice A' n' c'] 25)) w.heap.size Wd A n c A' n' c' ss ds := BathAt.new hb
  have hE0 : Ext w (w.alloc (.cells #[.int .i64 Wd, .slice A n c, .slice A' n' c'] 25)) := ext_alloc w _
  have HN := Lib.hid (And.intro hb.nss (And.intro hb.nds hb.cap'))
  go_enter Try.func12, Try.ntmps12
  go_upto_region 1 with fail
  obtain ⟨w0, hw0⟩ : ∃ w0, (w.alloc (.cells #[.int .i64 Wd, .slice A n c, .slice A' n' c'] 25)).alloc (.cells #[.int .u8 x, .int .u8 y] 54) = w0 := ⟨_, rfl⟩
  have hpp : w0.heap[w.heap.size + 1]? = some (.cells #[.int .u8 x, .int .u8 y] 54 (0, 0)) := by rw [← hw0]; exact row_last _ _ _ (by simp)
  have e3 : Ext (w.alloc (.cells #[.int .i64 Wd, .slice A n c, .slice A' n' c'] 25)) w0 := by rw [← hw0]; exact ext_alloc _ _
  have hx0 := hX0.ext e3
  have he0 := hE0.trans e3
  rw [hw0]
  clear hX0 hE0 e3 hw0
  obtain ⟨pp, hp1⟩ : ∃ pp, w.heap.size + 1 = pp := ⟨_, rfl⟩
  rw [hp1] at hpp ⊢
  obtain ⟨p, hp⟩ : ∃ p, w.heap.size = p := ⟨_, rfl⟩
  rw [hp] at hx0 ⊢
  have HP := Lib.hid hpp
  have HE0 := Lib.hid he0
  have cF := fine_any (Wd := Wd) hx0.bath
  clear hp hp1 hpp he0 hb
  cases hf : fineB Wd ss ds with
  | false =>
    rw [hf] at cF
    obtain ⟨q0, q1, q2⟩ := hx0.cells
    clear hf hx0
    go_wp2_with fail
    refine cF.mono ?_
    rintro e w1 ⟨rfl, e1⟩
    have HE := Lib.hid (HE0.out.trans e1)
    clear HE0 e1 cF q0 q1 q2
    go_wp2_with fail
    refine (works_any _).mono ?_
    rintro e v9 ⟨rfl, f9⟩
    go_wp2
    go_ret
    exact ⟨rfl, HE.out.trans f9⟩
  | true =>
    rw [hf] at cF
    have h0 : bathErr Wd ss ds = 0 := of_decide_eq_true hf
    clear hf
    have hn10 : n ≤ 10 := by have := (bath_ok h0).2.1.1; have := HN.out; omega
    have hn40 : n' ≤ 40 := by have := (bath_ok h0).2.1.2; have := HN.out; omega
    have h1 := placeOf_bd n x
    have h2 := otherOf_bd n x y
    have hne := otherOf_ne n x y
    have c43 : ∀ W : World, IsBath W W.heap.size A n c A' n' c' ss ds → Calls Try.prog 43 #[.agg #[.int .i64 Wd, .slice A n c, .slice A' n' c'], .agg #[.int .u8 x, .int .u8 y]] W fun e w' => e = .returned (.tuple #[.int .i64 (placeOf n x), .int .i64 (otherOf n x y)]) ∧ Ext W w' := fun W hW => two_any x y hx hy hn10 hW
    obtain ⟨one, hone⟩ : ∃ one, placeOf n x = one := ⟨_, rfl⟩
    obtain ⟨two, htwo⟩ : ∃ two, otherOf n x y = two := ⟨_, rfl⟩
    rw [hone] at c43 h1 hne
    rw [htwo] at c43 h2 hne
    have he : forErr Wd ss ds one two = 0 := by
      have := HN.out.1
      unfold forErr
      rw [if_pos h0, if_pos ⟨hne, by simp; omega, by simp; omega⟩]
    have HH := Lib.hid (And.intro h0 (And.intro he (And.intro hne (And.intro h1 h2))))
    obtain ⟨q0, q1, q2⟩ := hx0.cells
    have g0 : w0.cell? ⟨pp, 0, none⟩ = some (.int .u8 x) := cell_of_row _ _ _ _ _ _ HP.out
    have g1 : w0.cell? ⟨pp, 1, none⟩ = some (.int .u8 y) := cell_of_row _ _ _ _ _ _ HP.out
    clear hone htwo h0 he hne h1 h2
    go_wp2_with fail
    refine cF.mono ?_
    rintro e w1 ⟨rfl, e1⟩
    have hx1 := hx0.ext e1
    have g0 : w1.cell? ⟨pp, 0, none⟩ = some (.int .u8 x) := cell_of_row _ _ _ _ _ _ (row_ext HP.out e1)
    have g1 : w1.cell? ⟨pp, 1, none⟩ = some (.int .u8 y) := cell_of_row _ _ _ _ _ _ (row_ext HP.out e1)
    clear q0 q1 q2 cF hx0
    obtain ⟨q0, q1, q2⟩ := hx1.cells
    go_wp2_with fail
    refine (c43 _ hx1.bath).mono ?_
    rintro e w2 ⟨rfl, e2⟩
    have hx2 := hx1.ext e2
    have HE2 := Lib.hid (HE0.out.trans (e1.trans e2))
    clear q0 q1 q2 c43 hx1 g0 g1 e1 e2 HE0 HP
    have ht1 := Int.emod_nonneg tm (show (5 : Int) ≠ 0 by omega)
    have ht2 := Int.emod_lt_of_pos tm (show (0 : Int) < 5 by omega)
    obtain ⟨htm1, htm2⟩ := htm
    go_upto_region 5 with fail
    obtain ⟨t, ht⟩ : ∃ t, 1 + tm % 5 = t := ⟨_, rfl⟩
    have t1 : 1 ≤ t := by omega
    have t5 : t ≤ 5 := by omega
    rw [ht]
    have HWd := Lib.hid (bath_wd HH.out.1)
    have w1 : IntKind.i64.wrap (t * Wd) = t * Wd := IntWalk.i64_in _ (by have := mul_bd (a := t) (b := Wd) (M := 5) (N := 1000) (by omega) (by omega) (by have := HWd.out; omega) (by have := HWd.out; omega); omega)
    clear ht ht1 ht2 htm1 htm2 hx hy
    refine t5_wp rfl rfl rfl hx2.row w1 ?_
    intro px py w5 hpx hpy hpne e5 rX rY
    simp only [Exit.then, puts, List.foldl_cons, List.foldl_nil, Act.put, List.setIfInBounds_toArray, List.set_cons_succ, List.set_cons_zero]
    go_at_K
    have HX2 := Lib.hid hx2
    have HPN := Lib.hid (And.intro hpx (And.intro hpy hpne))
    have E5 := Lib.hid e5
    have HB5 : Hid (Both w2.heap.size px py (.int .i64 Wd) (.int .i64 (t * Wd)) (.slice A' n' c') (.slice none 0 0) [] [] w5 none 0 none 0) := Lib.hid ⟨rX, rY, World.ownsRow_nil _ _ _ _, World.ownsRow_nil _ _ _ _, fun g h => by simp [Value.ownBlock] at h⟩
    clear hx2 hpx hpy hpne e5 rX rY w1
    go_wp2
    go_loopw [12, 13] (fun i _ wr => ∃ (k : Nat) (X : Option Addr) (cX : Nat) (Y : Option Addr) (cY : Nat), k ≤ n ∧ i = .int .i64 k ∧ Hid (Ext w2 wr) ∧ Hid (Both w2.heap.size px py (.int .i64 Wd) (.int .i64 (t * Wd)) (.slice A' n' c') (.slice none 0 0) ((ss.take k).map (mirS Wd)) ((ss.take k).map (greatS t)) wr X cX Y cY)) (fun i _ _ => n - (intOf i).toNat)
    case atStart => exact ⟨0, none, 0, none, 0, Nat.zero_le _, rfl, E5, HB5⟩
    case round =>
      obtain ⟨k, X, cX, Y, cY, hk, rfl, hB, hT⟩ := hrel
      clear E5 HB5
      have hxr := HX2.out.ext hB.out
      obtain ⟨q0, q1, q2⟩ := hxr.cells
      by_cases hlt : k < n
      · have hltz : (k : Int) < (n : Int) := by omega
        obtain ⟨b, off, rfl, d0, d1⟩ := hxr.spot hlt
        obtain ⟨sx, sy, hs⟩ : ∃ sx sy, ss.getD k (0, 0) = (sx, sy) := ⟨_, _, rfl⟩
        rw [hs] at d0 d1
        have hsk : k < ss.length := by have := HN.out.1; omega
        have hsp := spot_ok HH.out.1 (i := k) (s := (sx, sy)) (by rw [← hs]; simp [hsk])
        have hmx := map_take_snoc (mirS Wd) ss (0, 0) hsk
        have hmy := map_take_snoc (greatS t) ss (0, 0) hsk
        rw [hs] at hmx hmy
        have HMM := Lib.hid (And.intro hmx hmy)
        have hlen : ((ss.take k).map (mirS Wd)).length ≤ 1000 ∧ ((ss.take k).map (greatS t)).length ≤ 1000 := by simp; omega
        have w1 : IntKind.i64.wrap (Wd - sx) = Wd - sx := IntWalk.i64_in _ (by have := HWd.out; simp only at hsp; omega)
        have w2' : IntKind.i64.wrap (t * sx) = t * sx := IntWalk.i64_in _ (by have := mul_bd (a := t) (b := sx) (M := 5) (N := 1000) (by omega) (by omega) (by simp only at hsp; omega) (by have := HWd.out; simp only at hsp; omega); omega)
        have w3' : IntKind.i64.wrap (t * sy) = t * sy := IntWalk.i64_in _ (by have := mul_bd (a := t) (b := sy) (M := 5) (N := 1000) (by omega) (by omega) (by simp only at hsp; omega) (by simp only at hsp; omega); omega)
        have HW := Lib.hid (And.intro w1 (And.intro w2' w3'))
        clear hs hsp hmx hmy w1 w2' w3' hsk
        go_upto_region 10 with fail
        obtain ⟨wc, hwc⟩ : ∃ wc, wr.alloc (.cells #[.int .i64 sx, .int .i64 sy] 74) = wc := ⟨_, rfl⟩
        have ec : Ext wr wc := by rw [← hwc]; exact ext_alloc _ _
        have hrow : wc.heap[wr.heap.size]? = some (.cells #[.int .i64 sx, .int .i64 sy] 74 (0, 0)) := by rw [← hwc]; exact row_last _ _ _ rfl
        rw [hwc]
        have hTc := hT.out.ext ec
        have hps : ∀ (v : Value) (m : Nat) (zs : List Value), wr.ownsRow w2.heap.size 74 2 v m zs → some wr.heap.size ≠ v.ownBlock := fun v m zs ho e => by have := (own_lt ho _ e.symm).2; omega
        have hpsX := hps _ _ _ hT.out.ox
        have hpsY := hps _ _ _ hT.out.oy
        have hpspx : wr.heap.size ≠ px := by have := (Array.getElem?_eq_some_iff.1 hT.out.rx).1; omega
        have hpspy : wr.heap.size ≠ py := by have := (Array.getElem?_eq_some_iff.1 hT.out.ry).1; omega
        obtain ⟨ps, hpse⟩ : ∃ ps, wr.heap.size = ps := ⟨_, rfl⟩
        rw [hpse] at hrow hpsX hpsY hpspx hpspy ⊢
        have hxc := hxr.ext ec
        have hBc := hB.out.trans ec
        clear hwc hps hpse q0 q1 q2 hxr d0 d1
        refine t10_wp rfl rfl rfl rfl hxc.row hTc.rx hrow HW.out.1 hTc.ox hlen.1 hBc HPN.out.1 ?_
        intro g5 g cap wd k1 k2 k3 k4 k5 k6
        simp only [Exit.then, puts, List.foldl_cons, List.foldl_nil, Act.put, List.setIfInBounds_toArray, List.set_cons_succ, List.set_cons_zero]
        go_at_K
        have hTd := hTc.addX HPN.out.2.2 k1 k2 k3 k4
        have hrowd := (k3 ps (Array.getElem?_eq_some_iff.1 hrow).1 hpspx hpsX).trans hrow
        have HS := Lib.hid (And.intro hrowd (And.intro hpspy hpsY))
        clear k1 k2 k3 k4 k5 hTc hrow hpsX hpspx hxc hBc ec hpspy hpsY hT hB
        have HTD := Lib.hid hTd
        have HED := Lib.hid k6
        clear hTd hrowd k6
        go_upto_region 11 with fail
        refine t11_wp rfl rfl rfl rfl HTD.out.ry HS.out.1 HW.out.2.1 HW.out.2.2 HTD.out.oy hlen.2 HED.out HPN.out.2.1 ?_
        intro g6 g' cap' we k1 k2 k3 k4 k5 k6
        simp only [puts, List.foldl_cons, List.foldl_nil, Act.put, List.setIfInBounds_toArray, List.set_cons_succ, List.set_cons_zero]
        have hTe := HTD.out.addY HPN.out.2.2 k1 k2 k3 k4
        rw [show (ss.take k).map (mirS Wd) ++ [(Wd - sx, sy)] = (ss.take (k + 1)).map (mirS Wd) from HMM.out.1.symm, show (ss.take k).map (greatS t) ++ [(t * sx, t * sy)] = (ss.take (k + 1)).map (greatS t) from HMM.out.2.symm] at hTe
        have HTE := Lib.hid hTe
        have HEE := Lib.hid k6
        clear k1 k2 k3 k4 k5 k6 hTe HTD HED HS HW HMM hlen
        go_wp2
        go_roundw
        case measure => simp [intOf]; omega
        case rel => exact ⟨k + 1, _, _, _, _, by omega, by go_num, HEE, HTE⟩
      · have hltz : ¬ (k : Int) < (n : Int) := by omega
        obtain rfl : n = k := by omega
        have hT2 := hT.out
        rw [show ss.take n = ss from List.take_of_length_le (by have := HN.out.1; omega)] at hT2
        have HT := Lib.hid hT2
        have HB := hB
        clear hT hT2 hB hxr hlt hk
        go_wp2
        go_loopw [14, 15] (fun i _ wq => ∃ (j : Nat) (U : Option Addr) (cU : Nat), j ≤ n' ∧ i = .int .i64 j ∧ Hid (Ext w2 wq) ∧ Hid (Third w2.heap.size px py (.int .i64 Wd) (.int .i64 (t * Wd)) (.slice A' n' c') (ss.map (mirS Wd)) (ss.map (greatS t)) ((ds.take j).map (greatD t)) wq X cX Y cY U cU)) (fun i _ _ => n' - (intOf i).toNat)
        case atStart => exact ⟨0, none, 0, Nat.zero_le _, rfl, HB, Lib.hid ⟨HT.out, World.ownsRow_nil _ _ _ _⟩⟩
        case round =>
          obtain ⟨j, U, cU, hj, rfl, hB, hT⟩ := hrel
          clear HT HB q0 q1 q2 hltz
          have hxr := HX2.out.ext hB.out
          obtain ⟨q0, q1, q2⟩ := hxr.cells
          by_cases hlt : j < n'
          · have hltz : (j : Int) < (n' : Int) := by omega
            obtain ⟨b, off, rfl, d0, d1, d2⟩ := hxr.drop hlt
            obtain ⟨sp, lo, hi, hs⟩ : ∃ sp lo hi, ds.getD j (0, 0, 0) = (sp, lo, hi) := ⟨_, _, _, rfl⟩
            rw [hs] at d0 d1 d2
            have hdj : j < ds.length := by have := HN.out.2.1; omega
            have hdo := drop_ok HH.out.1 (i := j) (s := (sp, lo, hi)) (by rw [← hs]; simp [hdj])
            have b1 : 1 ≤ lo := hdo.2.1
            have b2 : lo ≤ hi := hdo.2.2.1
            have b3 : hi ≤ 10000 := hdo.2.2.2
            have hmd := map_take_snoc (greatD t) ds (0, 0, 0) hdj
            rw [hs] at hmd
            have HMD := Lib.hid hmd
            have hlen : ((ds.take j).map (greatD t)).length ≤ 1000 := by simp; omega
            have tt := mul_bd (a := t) (b := t) (M := 5) (N := 5) (by omega) (by omega) (by omega) (by omega)
            have w1 : IntKind.i64.wrap (t * t) = t * t := IntWalk.i64_in _ (by omega)
            have w2' : IntKind.i64.wrap (t * t * lo) = t * t * lo := IntWalk.i64_in _ (by have := mul_bd (a := t * t) (b := lo) (M := 25) (N := 10000) (by omega) (by omega) (by omega) (by omega); omega)
            have w3' : IntKind.i64.wrap (t * t * hi) = t * t * hi := IntWalk.i64_in _ (by have := mul_bd (a := t * t) (b := hi) (M := 25) (N := 10000) (by omega) (by omega) (by omega) (by omega); omega)
            have HW := Lib.hid (And.intro w1 (And.intro w2' w3'))
            clear hs hdo hmd w1 w2' w3' hdj tt b1 b2 b3
            go_upto_region 16 with fail
            obtain ⟨wc, hwc⟩ : ∃ wc, wr.alloc (.cells #[.int .i64 sp, .int .i64 lo, .int .i64 hi] 62) = wc := ⟨_, rfl⟩
            have ec : Ext wr wc := by rw [← hwc]; exact ext_alloc _ _
            have hrow : wc.heap[wr.heap.size]? = some (.cells #[.int .i64 sp, .int .i64 lo, .int .i64 hi] 62 (0, 0)) := by rw [← hwc]; exact row_last _ _ _ rfl
            rw [hwc]
            have hTc := hT.out.ext ec
            have hBc := hB.out.trans ec
            obtain ⟨ps, hpse⟩ : ∃ ps, wr.heap.size = ps := ⟨_, rfl⟩
            rw [hpse] at hrow ⊢
            clear hwc hpse q0 q1 q2 hxr d0 d1 d2 hT hB ec
            refine t16_wp rfl rfl rfl rfl hTc.both.ry hrow HW.out.1 HW.out.2.1 HW.out.2.2 hTc.ou hlen hBc HPN.out.2.1 ?_
            intro g6 g' cap' we k1 k2 k3 k4 k5 k6
            simp only [puts, List.foldl_cons, List.foldl_nil, Act.put, List.setIfInBounds_toArray, List.set_cons_succ, List.set_cons_zero]
            have hTe := hTc.add HPN.out.2.2 k1 k2 k3
            rw [show (ds.take j).map (greatD t) ++ [(sp, t * t * lo, t * t * hi)] = (ds.take (j + 1)).map (greatD t) from HMD.out.symm] at hTe
            have HTE := Lib.hid hTe
            have HEE := Lib.hid k6
            clear k1 k2 k3 k4 k5 k6 hTe hTc hrow hBc HW HMD hlen
            go_wp2
            go_roundw
            case measure => simp [intOf]; omega
            case rel => exact ⟨j + 1, _, _, by omega, by go_num, HEE, HTE⟩
          · have hltz : ¬ (j : Int) < (n' : Int) := by omega
            obtain rfl : n' = j := by omega
            have hT2 := hT.out
            rw [show ds.take n' = ds from List.take_of_length_le (by have := HN.out.2.1; omega)] at hT2
            have HT := Lib.hid hT2
            have HE := hB
            clear hT hT2 hB hlt hj
            have hne := HH.out.2.2.1
            have nn := HN.out.1
            have c21 : ∀ W : World, IsBath W W.heap.size A n c A' n' c' ss ds → Calls Try.prog 21 #[.agg #[.int .i64 Wd, .slice A n c, .slice A' n' c'], .int .i64 one, .int .i64 two] W fun e w' => e = .returned (.tuple #[.int .i64 (kindOf Wd ss (sizes ds) one two), .int .i64 0]) ∧ Ext W w' := fun W hW => by
              have := touch_any (Wd := Wd) one two hW
              rw [touchAns_ok HH.out.1 hne (by have := HH.out; omega) (by have := HH.out; omega)] at this
              exact this
            have c25 : ∀ W : World, IsBath W W.heap.size A n c A' n' c' ss ds → _ := fun W hW => firstAns_prog (Wd := Wd) (w := W) one two hW
            obtain ⟨kd, hkd⟩ : ∃ kd, kindOf Wd ss (sizes ds) one two = kd := ⟨_, rfl⟩
            rw [hkd] at c21
            obtain ⟨⟨⟨fa, fb⟩, fe⟩, hfa⟩ : ∃ r, firstAns Wd ss ds one two = r := ⟨_, rfl⟩
            rw [hfa] at c25
            have HA := Lib.hid (And.intro hkd hfa)
            clear hkd hfa hne nn
            go_wp2_with fail
            refine (c21 _ hxr.bath).mono ?_
            rintro e wA ⟨rfl, eA⟩
            have hxA := hxr.ext eA
            clear q0 q1 q2 c21 hxr
            obtain ⟨q0, q1, q2⟩ := hxA.cells
            go_wp2_with fail
            refine (c25 _ hxA.bath).mono ?_
            rintro e wB ⟨rfl, eB⟩
            have hxB := hxA.ext eB
            have eAB := eA.trans eB
            clear q0 q1 q2 c25 hxA eA eB
            go_upto_region 19 with fail
            obtain ⟨wC, hwC⟩ : ∃ wC, wB.alloc (.cells #[.int .i64 fa, .int .i64 fb] 29) = wC := ⟨_, rfl⟩
            have eC : Ext wB wC := by rw [← hwC]; exact ext_alloc _ _
            have hrr : wC.heap[wB.heap.size]? = some (.cells #[.int .i64 fa, .int .i64 fb] 29 (0, 0)) := by rw [← hwC]; exact row_last _ _ _ rfl
            rw [hwC]
            obtain ⟨pr, hpr⟩ : ∃ pr, wB.heap.size = pr := ⟨_, rfl⟩
            rw [hpr] at hrr ⊢
            have hTC := HT.out.ext (eAB.trans eC)
            have hXC := hTC.bathX (HX2.out.bath.ext (HE.out.trans (eAB.trans eC))) (by simp) (by rw [List.length_map]; exact Nat.le_trans (Nat.le_of_eq HN.out.1.symm) (by omega))
            have HEC := Lib.hid (HE.out.trans (eAB.trans eC))
            have HYC := Lib.hid hTC
            have HRR := Lib.hid hrr
            have hl1 : (ss.map (mirS Wd)).length = n := by rw [List.length_map]; exact HN.out.1.symm
            have hrx := hTC.both.rx
            rw [hl1] at hXC hrx
            clear hwC eC hpr hrr eAB hTC hxB hl1
            have b1 := HH.out.2.2.2.1
            have b2 := HH.out.2.2.2.2
            have k1 : ∀ W, Ext wC W → Calls Try.prog 52 #[.int .i64 one] W fun e w' => e = .returned (.int .i64 (wallOf one)) ∧ Below W.heap.size W w' := fun W _ => wall_any one W (by omega) (by omega)
            have k2 : ∀ W, Ext wC W → Calls Try.prog 52 #[.int .i64 two] W fun e w' => e = .returned (.int .i64 (wallOf two)) ∧ Below W.heap.size W w' := fun W _ => wall_any two W (by omega) (by omega)
            have m0 := mir_ok HH.out.1
            have mf := mir_first HH.out.2.1
            have mk := kind_mir (Wd := Wd) (ss := ss) (sizes ds) HH.out.2.2.1 (by omega) (by have := HN.out.1; omega) (by omega) (by have := HN.out.1; omega)
            have wn := wall_ne (by omega) (by omega) HH.out.2.2.1
            have wb1 := wall_bd (n := n) (p := one) (by omega) (by omega)
            have wb2 := wall_bd (n := n) (p := two) (by omega) (by omega)
            have k21 : ∀ W, Ext wC W → Calls Try.prog 21 #[.agg #[.int .i64 Wd, .slice X n cX, .slice A' n' c'], .int .i64 (wallOf one), .int .i64 (wallOf two)] W fun e w' => e = .returned (.tuple #[.int .i64 kd, .int .i64 0]) ∧ Below W.heap.size W w' := fun W hW => by
              have := touch_any (Wd := Wd) (wallOf one) (wallOf two) (hXC.ext hW)
              rw [touchAns_ok m0 wn (by simp; have := HN.out.1; omega) (by simp; have := HN.out.1; omega), mk, HA.out.1] at this
              exact this
            have k25 : ∀ W, Ext wC W → Calls Try.prog 25 #[.agg #[.int .i64 Wd, .slice X n cX, .slice A' n' c'], .int .i64 (wallOf one), .int .i64 (wallOf two)] W fun e w' => e = .returned (.tuple #[.agg #[.int .i64 fa, .int .i64 fb], .int .i64 fe]) ∧ Below W.heap.size W w' := fun W hW => by
              have := firstAns_prog (Wd := Wd) (wallOf one) (wallOf two) (hXC.ext hW)
              rw [mf, HA.out.2] at this
              exact this
            clear m0 mf mk wn wb1 wb2 b1 b2 hXC
            refine t19_wp rfl rfl rfl rfl hrx k1 k2 k21 ?_
            intro wD eD
            simp only [Exit.then, puts, List.foldl_cons, List.foldl_nil, Act.put, List.setIfInBounds_toArray, List.set_cons_succ, List.set_cons_zero]
            go_at_K
            have hrxD := row_ext hrx eD
            have HRD := Lib.hid (row_ext HRR.out eD)
            have HYD := Lib.hid (HYC.out.ext eD)
            have HED := Lib.hid (HEC.out.trans eD)
            clear hrx k21 HRR HYC HEC
            go_upto_region 20 with fail
            refine t20_wp rfl rfl rfl rfl hrxD (fun W h => k1 W (eD.trans h)) (fun W h => k2 W (eD.trans h)) (fun W h => k25 W (eD.trans h)) ?_
            intro ps wG hps eG hss
            simp only [Exit.then, puts, List.foldl_cons, List.foldl_nil, Act.put, List.setIfInBounds_toArray, List.set_cons_succ, List.set_cons_zero]
            go_at_K
            have HRG := Lib.hid (row_ext HRD.out eG)
            have HYG := Lib.hid (HYD.out.ext eG)
            have HEG := Lib.hid (HED.out.trans eG)
            have HSS := Lib.hid hss
            clear hrxD k1 k2 k25 eD eG hps HRD HYD HED
            have a0 := cell_of_row _ _ 0 _ _ _ HRG.out
            have a1 := cell_of_row _ _ 1 _ _ _ HRG.out
            have b0 := cell_of_row _ _ 0 _ _ _ hss
            have b1 := cell_of_row _ _ 1 _ _ _ hss
            simp at a0 a1 b0 b1
            clear hss
            have hYB := HYG.out.bathY (by rw [List.length_map]; exact Nat.le_trans (Nat.le_of_eq HN.out.1.symm) (by omega)) (by rw [List.length_map]; exact Nat.le_trans (Nat.le_of_eq HN.out.2.1.symm) (by omega))
            have hry := HYG.out.both.ry
            have hl1 : (ss.map (greatS t)).length = n := by rw [List.length_map]; exact HN.out.1.symm
            have hl2 : (ds.map (greatD t)).length = n' := by rw [List.length_map]; exact HN.out.2.1.symm
            rw [hl1, hl2] at hYB hry
            have hY : BathAt wG py (t * Wd) Y n cY U n' cU (ss.map (greatS t)) (ds.map (greatD t)) := ⟨hry, hYB⟩
            have cFy := fine_any (Wd := t * Wd) hYB
            clear hl1 hl2 hry hYB
            obtain ⟨q0, q1, q2⟩ := hY.cells
            cases hfy : fineB (t * Wd) (ss.map (greatS t)) (ds.map (greatD t)) with
            | false =>
              rw [hfy] at cFy
              clear hfy hY
              go_wp2_with fail
              refine cFy.mono ?_
              rintro e wH ⟨rfl, eH⟩
              have HZ := Lib.hid (HE2.out.trans (HEG.out.trans eH))
              clear cFy eH q0 q1 q2 a0 a1 b0 b1
              go_wp2_with fail
              refine (works_any _).mono ?_
              rintro e v9 ⟨rfl, f9⟩
              go_wp2
              go_ret
              exact ⟨rfl, HZ.out.trans f9⟩
            | true =>
              rw [hfy] at cFy
              have hf0 : bathErr (t * Wd) (ss.map (greatS t)) (ds.map (greatD t)) = 0 := of_decide_eq_true hfy
              clear hfy
              have y21 : ∀ W : World, IsBath W W.heap.size Y n cY U n' cU (ss.map (greatS t)) (ds.map (greatD t)) → Calls Try.prog 21 #[.agg #[.int .i64 (t * Wd), .slice Y n cY, .slice U n' cU], .int .i64 one, .int .i64 two] W fun e w' => e = .returned (.tuple #[.int .i64 kd, .int .i64 0]) ∧ Ext W w' := fun W hW => by
                have := touch_any (Wd := t * Wd) one two hW
                have hb1 := HH.out.2.2.2.1
                have hb2 := HH.out.2.2.2.2
                have hnn := HN.out.1
                rw [touchAns_ok hf0 HH.out.2.2.1 (by simp; omega) (by simp; omega), kind_great (by omega) ds HH.out.2.2.1 (by omega) (by omega) (by omega) (by omega), HA.out.1] at this
                exact this
              have y25 : ∀ W : World, IsBath W W.heap.size Y n cY U n' cU (ss.map (greatS t)) (ds.map (greatD t)) → Calls Try.prog 25 #[.agg #[.int .i64 (t * Wd), .slice Y n cY, .slice U n' cU], .int .i64 one, .int .i64 two] W fun e w' => e = .returned (.tuple #[.agg #[.int .i64 fa, .int .i64 fb], .int .i64 fe]) ∧ Ext W w' := fun W hW => by
                have := firstAns_prog (Wd := t * Wd) one two hW
                rw [great_first (by omega) HH.out.2.1 hf0, HA.out.2] at this
                exact this
              clear hf0
              go_wp2_with fail
              refine cFy.mono ?_
              rintro e wH ⟨rfl, eH⟩
              have hYH := hY.ext eH
              have HRH := Lib.hid (row_ext HRG.out eH)
              have HEH := Lib.hid (HEG.out.trans eH)
              clear cFy eH q0 q1 q2 a0 a1 b0 b1 hY HRG HEG HYG HSS
              obtain ⟨q0, q1, q2⟩ := hYH.cells
              go_wp2_with fail
              refine (y21 _ hYH.bath).mono ?_
              rintro e wI ⟨rfl, eI⟩
              have hYI := hYH.ext eI
              clear q0 q1 q2 y21 hYH
              obtain ⟨q0, q1, q2⟩ := hYI.cells
              go_wp2_with fail
              refine (y25 _ hYI.bath).mono ?_
              rintro e wJ ⟨rfl, eJ⟩
              have HRJ := Lib.hid (row_ext HRH.out (eI.trans eJ))
              have HEJ := Lib.hid (HEH.out.trans (eI.trans eJ))
              clear q0 q1 q2 y25 hYI eI eJ HRH HEH
              go_upto_region 27 with fail
              obtain ⟨wK, hwK⟩ : ∃ wK, wJ.alloc (.cells #[.int .i64 fa, .int .i64 fb] 29) = wK := ⟨_, rfl⟩
              have eK : Ext wJ wK := by rw [← hwK]; exact ext_alloc _ _
              have hkk : wK.heap[wJ.heap.size]? = some (.cells #[.int .i64 fa, .int .i64 fb] 29 (0, 0)) := by rw [← hwK]; exact row_last _ _ _ rfl
              rw [hwK]
              obtain ⟨pk, hpk⟩ : ∃ pk, wJ.heap.size = pk := ⟨_, rfl⟩
              rw [hpk] at hkk ⊢
              have a0 := cell_of_row _ _ 0 _ _ _ (row_ext HRJ.out eK)
              have a1 := cell_of_row _ _ 1 _ _ _ (row_ext HRJ.out eK)
              have b0 := cell_of_row _ _ 0 _ _ _ hkk
              have b1 := cell_of_row _ _ 1 _ _ _ hkk
              simp at a0 a1 b0 b1
              have HZ := Lib.hid (HE2.out.trans (HEJ.out.trans eK))
              clear hwK hpk hkk eK HRJ HEJ
              go_wp2_with fail
              refine (works_any _).mono ?_
              rintro e v9 ⟨rfl, f9⟩
              go_wp2
              go_ret
              exact ⟨rfl, HZ.out.trans f9⟩
end
end Go.Proofs.Ytckndnaohggmhaa
