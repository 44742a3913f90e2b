/- Texts of one package, joined: Made, Opened, Does, DoesAll, Marked, Rising, Small, Ix. -/
import Derived.Test.YtmlmnljbegcjcaaGreatD3
import Derived.Test.YtmlmnljbegcjcaaGreatD4
import Derived.Laws.AppendOwn
/- Slices that a call makes: appended to, read. -/
namespace Go.Proofs.YtmlmnljbegcjcaaGreat
open Go.RowKit Go.Shelf

theorem owns_mono {w : World} {base base' : Nat} {e : TypeId} {size n : Nat} {v : Value} {xs : List Value} (h : w.ownsRow base e size v n xs) (hb : base' ≤ base) : w.ownsRow base' e size v n xs := by
  refine ⟨h.1, h.2.imp id ?_⟩
  rintro ⟨g, cap, cur, hv, hg, r⟩
  exact ⟨g, cap, cur, hv, Nat.le_trans hb hg, r⟩
theorem owns_slice {W : World} {base : Nat} {e : TypeId} {size n : Nat} {v : Value} {xs : List Value} (h : W.ownsRow base e size v n xs) : ∃ A c, v = .slice A n c := by
  rcases h.2 with ⟨rfl, rfl⟩ | ⟨g, cap, _, rfl, _⟩
  · exact ⟨_, _, rfl⟩
  · exact ⟨_, _, rfl⟩
/-- One element appended to a row of one's own: what stood before in other blocks stays. -/
theorem wpList_app1 {ops : Array Oper} {rest : List Oper} {o : Oper} {a : Act} {w : World} {Q : Exit → Act → World → Prop} (hgd : o.guard = none) (ts tx : Tmp) (t e : TypeId) (ho : o.op = .call { callee := .builtin .append, args := #[.tmp ts, .tmp tx], argTypes := #[t, t] })
    (ht : Tryz.prog.underlying t = some (.slice e)) (z : Value) (size bytes : Nat) (hinfo : (Tryz.prog.info? e).map (fun i => (i.zero, i.size, i.bytes)) = some (some z, size, bytes)) (hzs : z.cells.size = size) (hsz : 0 < size) (hby : bytes ≤ 1000)
    (base n : Nat) (v : Value) (xs : List Value) (hs : a.eval (.tmp ts) = v) (hown : w.ownsRow base e size v n xs) (g : Nat) (news : List Value) (hx : a.eval (.tmp tx) = .slice (some ⟨g, 0, none⟩) 1 1) (hl : news.length = size)
    (hg : w.heap[g]? = some (.cells news.toArray e (0, 0))) (h1 : ∀ u ∈ news, u.oneCell' = true) (hn : n ≤ 100000) (hbase : base ≤ w.heap.size)
    (K : ∀ A' c' w', w'.ownsRow base e size (.slice A' (n + 1) c') (n + 1) (xs ++ news) → Below base w w' → w.grownBy w' v.ownBlock → wpList Tryz.prog ops Q rest (a.put o.dst (.slice A' (n + 1) c')) w') : wpList Tryz.prog ops Q (o :: rest) a w := by
  obtain ⟨i0, hi, hz0, hz1, hz2⟩ := info_parts hinfo
  have hadd : ∀ j, (⟨g, 0, none⟩ : Addr).add j = ⟨g, j, none⟩ := fun j => by unfold Addr.add; split <;> simp_all
  refine wpList_append_own _ hgd (.tmp ts) (.tmp tx) t ho base e i0 z size bytes ht hi hz0 hz1 hz2 hzs hsz v n xs hs hown ⟨g, 0, none⟩ 1 1 news hx (by rw [hl]; omega) (fun j u hu => ?_) h1 (by unfold maxLen; omega) ?_ hbase ?_
  · rw [hadd, cell_of_row _ _ j _ _ _ hg]
    simpa using hu
  · have : (n + 1) * bytes ≤ (n + 1) * 1000 := Nat.mul_le_mul_left _ hby
    omega
  · intro v' w' hown' hg5 _
    obtain ⟨A', c', rfl⟩ := owns_slice hown'
    exact K A' c' w' hown' ((Below.refl base w).grown hg5 hbase fun r hr => (hown.lt r hr).1) hg5
theorem info3 : (Tryz.prog.info? 3).map (fun i => (i.zero, i.size, i.bytes)) = some (some (.int .i64 0), 1, 8) := by kernel_rfl
theorem info2 : (Tryz.prog.info? 2).map (fun i => (i.zero, i.size, i.bytes)) = some (some (.int .i64 0), 1, 8) := by kernel_rfl
theorem info80 : (Tryz.prog.info? 80).map (fun i => (i.zero, i.size, i.bytes)) = some (some (.agg #[.int .i64 0, .int .i64 0, .int .i64 0, .int .i64 0, .int .i64 0, .int .i64 0, .int .i64 0]), 7, 56) := by kernel_rfl
theorem encE_len (o : Odr) : (encE o).length = 7 := rfl
theorem flat_snoc {α : Type} (enc : α → List Value) (r : List α) (x : α) : (r ++ [x]).flatMap enc = r.flatMap enc ++ enc x := by simp
theorem flatI (xs : List Int) : xs.flatMap encI = xs.map (Value.int .i64) := by
  induction xs with
  | nil => rfl
  | cons x xs ih => rw [List.flatMap_cons, ih]; rfl
theorem encE_one (o : Odr) : ∀ u ∈ encE o, u.oneCell' = true := by
  intro u hu
  simp [encE] at hu
  rcases hu with rfl | rfl | rfl | rfl | rfl | rfl | rfl <;> rfl
theorem encI_one (x : Int) : ∀ u ∈ [Value.int .i64 x], u.oneCell' = true := by
  intro u hu
  simp at hu
  subst hu; rfl
/-- A list of ints that a call made. -/
def Made (base : Nat) (e : TypeId) (xs : List Int) (w : World) (A : Option Addr) (c : Nat) : Prop := w.ownsRow base e 1 (.slice A xs.length c) xs.length (xs.map (Value.int .i64))
theorem Made.ext {base : Nat} {e : TypeId} {xs : List Int} {w w' : World} {A : Option Addr} {c : Nat} (h : Made base e xs w A c) (E : Ext w w') : Made base e xs w' A c := owns_ext h E
theorem Made.held {base : Nat} {e : TypeId} {xs : List Int} {w : World} {A : Option Addr} {c : Nat} (h : Made base e xs w A c) : Held w w.heap.size 1 encI A xs ∧ xs.length ≤ c :=
  own_held (enc := encI) (xs := xs) (fun _ => rfl) rfl (by rw [flatI]; exact h)
theorem int_get {w : World} {A : Option Addr} {xs : List Int} (hh : Held w w.heap.size 1 encI A xs) {k : Nat} (hk : k < xs.length) : ∃ b off, A = some ⟨b, off, none⟩ ∧ w.cell? ⟨b, off + k, none⟩ = some (.int .i64 xs[k]) := by
  rcases hh with h | ⟨b, off, rfl, hlt', hc⟩
  · simp [h] at hk
  · refine ⟨b, off, rfl, ?_⟩
    have h2 := hc k xs[k] (List.getElem?_eq_getElem hk) 0 _ rfl
    simpa using h2

/-- The book that a slice holds: valid orders with their births. -/
structure IsBook (w : World) (A : Option Addr) (c : Nat) (os : List Odr) : Prop where
  held : Held w w.heap.size 7 encE A os
  cap : os.length ≤ c
  ok : ordersErr os = 0
theorem IsBook.ext {w w' : World} {A : Option Addr} {c : Nat} {os : List Odr} (h : IsBook w A c os) (e : Ext w w') : IsBook w' A c os := ⟨h.held.ext e, h.cap, h.ok⟩
theorem IsBook.few {w : World} {A : Option Addr} {c : Nat} {os : List Odr} (h : IsBook w A c os) : 1 ≤ os.length ∧ os.length ≤ 14 := (orders_ok h.ok).1
/-- The cells of an entry. -/
theorem IsBook.at {w : World} {A : Option Addr} {c : Nat} {os : List Odr} (h : IsBook w A c os) {j : Nat} (hj : j < os.length) : ∃ b off, A = some ⟨b, off, none⟩ ∧ b < w.heap.size ∧ w.cell? ⟨b, off + j * 7, none⟩ = some (.int .i64 os[j].lo) ∧ w.cell? ⟨b, off + j * 7 + 1, none⟩ = some (.int .i64 os[j].hi) ∧ w.cell? ⟨b, off + j * 7 + 2, none⟩ = some (.int .i64 os[j].young) ∧ w.cell? ⟨b, off + j * 7 + 3, none⟩ = some (.int .i64 os[j].old) ∧ w.cell? ⟨b, off + j * 7 + 4, none⟩ = some (.int .i64 os[j].worth) ∧ w.cell? ⟨b, off + j * 7 + 5, none⟩ = some (.int .i64 (bLo os[j])) ∧ w.cell? ⟨b, off + j * 7 + 6, none⟩ = some (.int .i64 (bHi os[j])) := by
  obtain ⟨b, off, hA, hb, hc⟩ := held_at h.held hj
  exact ⟨b, off, hA, hb, hc 0 _ rfl, hc 1 _ rfl, hc 2 _ rfl, hc 3 _ rfl, hc 4 _ rfl, hc 5 _ rfl, hc 6 _ rfl⟩
end Go.Proofs.YtmlmnljbegcjcaaGreat

/- opened: valid orders with their births. -/
namespace Go.Proofs.YtmlmnljbegcjcaaGreat
open Go.RowKit Go.Shelf

/-- A book, or an error and none. -/
def OpenPost (os : List Odr) (err : Int) (w : World) (e : Ending) (w' : World) : Prop :=
  Ext w w' ∧ ((err ≠ 0 ∧ e = .returned (.tuple #[.slice none 0 0, .int .i64 err])) ∨ (err = 0 ∧ ∃ A c, e = .returned (.tuple #[.slice A os.length c, .int .i64 0]) ∧ IsBook w' A c os))

set_option maxHeartbeats 2000000 in
theorem opened_any {A : Option Addr} {n c : Nat} {os : List Odr} {w : World} (h : IsOrders w A n c os) :
    Calls Tryz.prog 52 #[.slice A n c] w (OpenPost os (ordersErr os) w) := by
  have h20 := checkOrders_any h
  obtain ⟨E, hE⟩ : ∃ E, ordersErr os = E := ⟨_, rfl⟩
  rw [hE] at h20 ⊢
  have HN := Lib.hid h.len
  have HO := Lib.hid h
  have HEE := Lib.hid hE
  clear h hE
  go_enter Tryz.func52, Tryz.ntmps52
  go_wp2_with fail
  refine h20.mono ?_
  rintro e w1 ⟨rfl, e1⟩
  have HE := Lib.hid (show Ext w w1 from e1)
  clear e1 h20
  by_cases h0 : E = 0
  · subst h0
    have hok := orders_ok HEE.out
    have HK := Lib.hid hok.2
    have hn14 : n ≤ 14 := by have := HN.out; omega
    clear hok
    go_wp2
    go_loopw [5, 7, 15] (fun v _ i wr => ∃ k : Nat, k ≤ n ∧ i = .int .i64 k ∧ Hid (Ext w wr) ∧ Hid (wr.ownsRow w.heap.size 80 7 v k ((os.take k).flatMap encE))) (fun _ _ i _ => n - (intOf i).toNat)
    case atStart => exact ⟨0, Nat.zero_le _, rfl, HE, Lib.hid (World.ownsRow_nil _ _ _ _)⟩
    case round =>
      obtain ⟨k, hk, rfl, hB, hO⟩ := hrel
      have hsz := hB.out.size
      by_cases hlt : k < n
      · have hltz : (k : Int) < (n : Int) := by omega
        have hkl : k < os.length := by rw [← HN.out]; exact hlt
        obtain ⟨b, off, rfl, hbl, hc⟩ := held_at (HO.out.ext hB.out).held hkl
        have hen := entered_any os[k] (HK.out _ (List.getElem_mem hkl))
        have htk : os.take (k + 1) = os.take k ++ [os[k]] := List.take_succ_eq_append_getElem hkl
        obtain ⟨o, ho⟩ : ∃ o, os[k] = o := ⟨_, rfl⟩
        rw [ho] at hc hen htk
        have c0 := hc 0 _ rfl
        have c1 := hc 1 _ rfl
        have c2 := hc 2 _ rfl
        have c3 := hc 3 _ rfl
        have c4 := hc 4 _ rfl
        have HTK := Lib.hid htk
        simp only [Nat.add_zero] at c0
        clear hc ho htk
        go_wp2_with (first | (refine (hen _).mono ?_; rintro e w2 ⟨rfl, e2⟩; have HE2 := Lib.hid ((hB.out.trans (ext_alloc _ _)).trans e2); have HO2 := Lib.hid (owns_ext (hO.out.alloc _) e2); clear e2 hB hO) | (at_builtin; refine wpList_app1 rfl 19 22 75 80 rfl Tryz.underlying75 _ 7 56 info80 rfl (by decide) (by decide) w.heap.size k _ _ rfl (HO2.out.alloc _) w2.heap.size (encE o) rfl rfl (row_last _ _ _ rfl) (encE_one _) (by omega) (by have := HE2.out.size; simp; omega) ?_; intro A9 c9 w3 hown hB3 _; have HW := Lib.hid hown; have HE3 := Lib.hid (Below.trans (HE2.out.trans (ext_alloc _ _)) hB3 : Ext w w3); clear hown hB3))
        go_roundw
        case measure => simp [intOf]; omega
        case rel =>
          refine ⟨k + 1, by omega, by go_num, HE3, Lib.hid ?_⟩
          rw [HTK.out, flat_snoc]
          exact HW.out
      · have hltz : ¬ (k : Int) < (n : Int) := by omega
        obtain rfl : k = n := by omega
        have hO1 := hO.out
        rw [show os.take k = os from by rw [HN.out, List.take_length]] at hO1
        obtain ⟨A5, c5, hv⟩ := owns_slice hO1
        subst hv
        have hbk := own_held encE_len HN.out hO1
        have HBK := Lib.hid hbk
        clear hO1 hbk
        go_wp2
        go_ret2
        refine ⟨hB.out, .inr ⟨rfl, A5, c5, ?_, HBK.out.1, ?_, HEE.out⟩⟩
        · rw [← HN.out]
          rfl
        · rw [← HN.out]; exact HBK.out.2
  · go_wp2
    go_ret2
    exact ⟨HE.out, .inl ⟨h0, rfl⟩⟩
end Go.Proofs.YtmlmnljbegcjcaaGreat

/- isDone, ContainsFunc, does: which orders one of some baths does. -/
namespace Go.Proofs.YtmlmnljbegcjcaaGreat
open Go.RowKit Go.Shelf
attribute [local irreducible] bitCells

/-- The cells of an entry. -/
abbrev entCells (o : Odr) : Array Value := #[.int .i64 o.lo, .int .i64 o.hi, .int .i64 o.young, .int .i64 o.old, .int .i64 o.worth, .int .i64 (bLo o), .int .i64 (bHi o)]
theorem done_all (x : Int) (o : Odr) : [x].all (inside (bLo o) (bHi o)) = doneB x o := by simp [inside, doneB]
set_option maxHeartbeats 1000000 in
theorem isDone_any (o : Odr) (x : Int) (W : World) : Calls Tryz.prog 86 #[.agg #[.int .i64 o.lo, .int .i64 o.hi, .int .i64 o.young, .int .i64 o.old, .int .i64 o.worth, .int .i64 (bLo o), .int .i64 (bHi o)], .int .i64 x] W fun e w' => e = .returned (.bool (doneB x o)) ∧ Below W.heap.size W w' := by
  have hq := done_all x o
  generalize doneB x o = q at hq ⊢
  generalize bLo o = lo at hq ⊢
  generalize bHi o = hi at hq ⊢
  have H1 := Lib.hid hq; clear hq
  go_enter Tryz.func86, Tryz.ntmps86
  go_wp2_with fail
  refine (within _ _ _ _ _ [x] _ rfl (by simp) (held_row (row_last _ _ _ (by simp)) rfl)).mono ?_
  rw [H1.out]
  rintro e w1 ⟨rfl, hb1⟩
  go_wp2
  go_ret
  exact ⟨rfl, bstep (((Below.refl _ W).alloc (Nat.le_refl _) _).alloc (by simp) _) (by simp; omega) hb1⟩

set_option maxHeartbeats 1000000 in
theorem indexFunc_any (o : Odr) (A : Option Addr) (n c : Nat) (xs : List Int) (w : World) (hnn : n = xs.length) (hn : n ≤ 9223372036854775807) (hh : Held w w.heap.size 1 encI A xs) :
    Calls Tryz.prog 106 #[.slice A n c, .func (.func 86) #[.agg #[.int .i64 o.lo, .int .i64 o.hi, .int .i64 o.young, .int .i64 o.old, .int .i64 o.worth, .int .i64 (bLo o), .int .i64 (bHi o)]] #[]] w fun e w' => e = .returned (.int .i64 (if xs.any (fun x => doneB x o) = true then (xs.findIdx (fun x => doneB x o) : Int) else -1)) ∧ Below w.heap.size w w' := by
  have e86 : ∀ args w, (callFunc 86 args).run Tryz.prog w = .ok (.enter 86 args) w := enters_of Tryz.func86 (by kernel_rfl) rfl
  have HN := Lib.hid hnn; clear hnn
  obtain ⟨ans, hans⟩ : ∃ ans, (if xs.any (fun x => doneB x o) = true then (xs.findIdx (fun x => doneB x o) : Int) else -1) = ans := ⟨_, rfl⟩
  rw [hans]
  have HA := Lib.hid hans
  clear hans
  go_enter Tryz.func106, Tryz.ntmps106
  go_wp2
  go_loopw [5, 8] (fun _ i wr => ∃ k : Nat, k ≤ n ∧ i = .int .i64 k ∧ Hid (Below w.heap.size w wr) ∧ Hid (∀ j (hj : j < k) (hl : j < xs.length), doneB xs[j] o = false)) (fun _ i _ => n - (intOf i).toNat)
  case atStart => exact ⟨0, Nat.zero_le _, rfl, Lib.hid (Below.refl _ _), Lib.hid (fun j hj => absurd hj (Nat.not_lt_zero _))⟩
  case round =>
    obtain ⟨k, hk, rfl, hB, hA⟩ := hrel
    by_cases hlt : k < n
    · have hltz : (k : Int) < (n : Int) := by omega
      have hkl : k < xs.length := by rw [← HN.out]; exact hlt
      obtain ⟨b, off, rfl, hcell⟩ := int_get (Held.ext hh hB.out) hkl
      obtain ⟨x, hx⟩ : ∃ x, xs[k] = x := ⟨_, rfl⟩
      rw [hx] at hcell
      have hcall := isDone_any o x wr
      have HX := Lib.hid hx
      clear hx hh
      cases hq : doneB x o with
      | true =>
        rw [hq] at hcall
        have hf := findIdx_hit (fun x => doneB x o) xs k hkl (fun j hj => hA.out j hj (by omega)) (by show doneB xs[k] o = true; rw [HX.out]; exact hq)
        have hany : xs.any (fun x => doneB x o) = true := List.any_eq_true.2 ⟨xs[k], List.getElem_mem hkl, by show doneB xs[k] o = true; rw [HX.out]; exact hq⟩
        have hans := HA.out
        rw [if_pos hany, hf] at hans
        have HA2 := Lib.hid hans
        clear hf hany hans hq
        go_wp2_with (go_at_fn 86; refine hcall.mono ?_; rintro e w' ⟨rfl, hb'⟩)
        go_ret
        exact ⟨ret_num HA2.out, bstep hB.out hB.out.size hb'⟩
      | false =>
        rw [hq] at hcall
        have HQ := Lib.hid hq
        clear hq
        go_wp2_with (go_at_fn 86; refine hcall.mono ?_; rintro e w' ⟨rfl, hb'⟩)
        go_roundw
        case measure => simp [intOf]; omega
        case rel =>
          refine ⟨k + 1, by omega, by go_num, Lib.hid (bstep hB.out hB.out.size hb'), Lib.hid fun j hj hl => ?_⟩
          by_cases e : j = k
          · subst e
            rw [HX.out]; exact HQ.out
          · exact hA.out j (by omega) hl
    · have hltz : ¬ (k : Int) < (n : Int) := by omega
      have : k = n := by omega
      subst this
      have hany : ¬ xs.any (fun x => doneB x o) = true := by
        intro h
        obtain ⟨x, hx, hd⟩ := List.any_eq_true.1 h
        obtain ⟨j, hj, rfl⟩ := List.getElem_of_mem hx
        have := hA.out j (by rw [HN.out]; exact hj) hj
        rw [this] at hd
        cases hd
      have hans := HA.out
      rw [if_neg hany] at hans
      have HA2 := Lib.hid hans
      clear hany hans
      go_wp2
      go_ret
      exact ⟨ret_num HA2.out, hB.out⟩

set_option maxHeartbeats 1000000 in
theorem contains_any (o : Odr) (A : Option Addr) (n c : Nat) (xs : List Int) (w : World) (hnn : n = xs.length) (hn : n ≤ 9223372036854775807) (hh : Held w w.heap.size 1 encI A xs) :
    Calls Tryz.prog 85 #[.slice A n c, .func (.func 86) #[.agg #[.int .i64 o.lo, .int .i64 o.hi, .int .i64 o.young, .int .i64 o.old, .int .i64 o.worth, .int .i64 (bLo o), .int .i64 (bHi o)]] #[]] w fun e w' => e = .returned (.bool (madeB xs o)) ∧ Below w.heap.size w w' := by
  have hcon := indexFunc_any o A n c xs w hnn hn hh
  have hq : (decide ((if xs.any (fun x => doneB x o) = true then (xs.findIdx (fun x => doneB x o) : Int) else -1) ≥ 0)) = madeB xs o := by
    unfold madeB
    cases h : xs.any fun x => doneB x o
    · simp
    · simp
  generalize (if xs.any (fun x => doneB x o) = true then (xs.findIdx (fun x => doneB x o) : Int) else -1) = r at hcon hq
  generalize madeB xs o = q at hq ⊢
  have HQ := Lib.hid hq
  clear hq hnn hh hn
  by_cases hr : 0 ≤ r
  · go_enter Tryz.func85, Tryz.ntmps85
    go_wp2_with (go_at_call 106; refine hcon.mono ?_; rintro e w' ⟨rfl, hb'⟩)
    go_ret
    exact ⟨ret_bool (by have := HQ.out; simp_all), hb'⟩
  · go_enter Tryz.func85, Tryz.ntmps85
    go_wp2_with (go_at_call 106; refine hcon.mono ?_; rintro e w' ⟨rfl, hb'⟩)
    go_ret
    exact ⟨ret_bool (by have := HQ.out; simp_all), hb'⟩
end Go.Proofs.YtmlmnljbegcjcaaGreat

/- does, all: marks of orders. -/
namespace Go.Proofs.YtmlmnljbegcjcaaGreat
open Go.RowKit Go.Shelf
attribute [local irreducible] bitCells

/-- The orders that one of some baths does, by their indexes. -/
def doesB (os : List Odr) (bs : List Int) (i : Nat) : Bool := decide (i < os.length) && madeB bs (oAt os i)
def doesTo (os : List Odr) (bs : List Int) (k : Nat) (i : Nat) : Bool := decide (i < k) && madeB bs (oAt os i)
/-- One variable turns. -/
theorem set_kept {w W : World} {p : Nat} {v : Value} {o : Nat} (h : Ext w W) (hp : w.heap.size ≤ p) : Ext w (W.setCell ⟨p, o, none⟩ v) := Below.setCell h hp _

set_option maxRecDepth 100000 in
set_option maxHeartbeats 4000000 in
theorem does_any {A : Option Addr} {c : Nat} {os : List Odr} {w : World} (hb : IsBook w A c os) (A' : Option Addr) (n' c' : Nat) (bs : List Int) (hn' : n' = bs.length) (hm' : n' ≤ 9223372036854775807) (hh : Held w w.heap.size 1 encI A' bs) :
    Calls Tryz.prog 57 #[.slice A os.length c, .slice A' n' c'] w fun e w' => e = .returned (.agg (bitCells (doesB os bs))) ∧ Ext w w' := by
  have HB := Lib.hid hb
  have HH := Lib.hid hh
  have HN := Lib.hid hn'
  have hn14 := hb.few.2
  have E2 : Ext w ((w.alloc (.cells (bitCells noBits) 83)).alloc (.cells (bitCells noBits) 83)) := (ext_alloc _ _).trans (ext_alloc _ _)
  have r4 : ((w.alloc (.cells (bitCells noBits) 83)).alloc (.cells (bitCells noBits) 83)).heap[w.heap.size]? = some (.cells (bitCells noBits) 83 (0, 0)) := row_alloc _ _ _ _ (row_last _ _ _ rfl)
  have r5 : ((w.alloc (.cells (bitCells noBits) 83)).alloc (.cells (bitCells noBits) 83)).heap[(w.alloc (.cells (bitCells noBits) 83)).heap.size]? = some (.cells (bitCells noBits) 83 (0, 0)) := row_last _ _ _ rfl
  clear hb hh hn'
  go_enter Tryz.func57, Tryz.ntmps57
  go_upto_region 2 with (refine wpList_alloc83 rfl rfl ?_)
  obtain ⟨w2, hw2⟩ : ∃ w2, (w.alloc (.cells (bitCells noBits) 83)).alloc (.cells (bitCells noBits) 83) = w2 := ⟨_, rfl⟩
  rw [hw2] at E2 r4 r5 ⊢
  obtain ⟨p4, hp4⟩ : ∃ p4, w.heap.size = p4 := ⟨_, rfl⟩
  obtain ⟨p5, hp5⟩ : ∃ p5, (w.alloc (.cells (bitCells noBits) 83)).heap.size = p5 := ⟨_, rfl⟩
  have hp5' : w.heap.size + 1 = p5 := by rw [← hp5]; simp
  rw [hp4] at r4
  rw [hp5] at r5
  have HP := Lib.hid (show w.heap.size ≤ p4 ∧ w.heap.size ≤ p5 ∧ p4 ≠ p5 by omega)
  rw [hp5, hp4]
  simp only [Act.put, List.setIfInBounds_toArray, List.set_cons_succ, List.set_cons_zero]
  have HE := Lib.hid E2
  have HR4 := Lib.hid r4
  have HR5 := Lib.hid r5
  clear E2 r4 r5 hw2 hp4 hp5 hp5'
  go_wp2
  go_loopw [6, 7, 10] (fun _ _ i wr => ∃ k : Nat, k ≤ os.length ∧ i = .int .i64 k ∧ Hid (Ext w wr) ∧ Hid (wr.heap[p4]? = some (.cells (bitCells noBits) 83 (0, 0))) ∧ Hid (wr.heap[p5]? = some (.cells (bitCells (doesTo os bs k)) 83 (0, 0)))) (fun _ _ i _ => os.length - (intOf i).toNat)
  case atStart => exact ⟨0, Nat.zero_le _, rfl, HE, HR4, Lib.hid (by rw [show doesTo os bs 0 = noBits from by funext i; simp [doesTo, noBits]]; exact HR5.out)⟩
  case round =>
    obtain ⟨k, hk, rfl, hB, hR4, hR5⟩ := hrel
    clear HR4 HR5 HE
    by_cases hlt : k < os.length
    · have hltz : (k : Int) < (os.length : Int) := by omega
      obtain ⟨b, off, rfl, hbl, c0, c1, c2, c3, c4, c5, c6⟩ := (HB.out.ext hB.out).at hlt
      have hcon := fun W (hW : Ext w W) => contains_any os[k] A' n' c' bs W HN.out hm' (HH.out.ext hW)
      have hoat : oAt os k = os[k] := oAt_get hlt
      obtain ⟨o, ho⟩ : ∃ o, os[k] = o := ⟨_, rfl⟩
      rw [ho] at c0 c1 c2 c3 c4 c5 c6 hcon hoat
      have hstep : ∀ i, i < 14 → doesTo os bs (k + 1) i = if i = k then madeB bs o else doesTo os bs k i := fun i _ => by
        unfold doesTo
        by_cases e : i = k
        · subst e
          rw [if_pos rfl, hoat]
          simp
        · rw [if_neg e]
          by_cases h : i < k
          · rw [decide_eq_true h, decide_eq_true (by omega : i < k + 1)]
          · rw [decide_eq_false h, decide_eq_false (by omega : ¬ i < k + 1)]
      have HS := Lib.hid hstep
      have hk14 : k < 14 := by omega
      have hk14z : (k : Int) < 14 := by omega
      obtain ⟨q, hq⟩ : ∃ q, madeB bs o = q := ⟨_, rfl⟩
      simp only [hq] at hcon
      rw [hq] at HS
      clear ho hoat hstep hq
      go_wp2_with (first | (refine (hcon _ (hB.out.trans (ext_alloc _ _))).mono ?_; rintro e w3 ⟨rfl, e3⟩; have HE3 := Lib.hid ((hB.out.trans (ext_alloc _ _)).trans (show Ext _ w3 from e3)); have HR4' := Lib.hid (row_ext (row_alloc _ _ _ _ hR4.out) e3); have HR5' := Lib.hid (row_ext (row_alloc _ _ _ _ hR5.out) e3); have fz : w3.frozen? ⟨p5, k, none⟩ = false := (by simp [World.frozen?, HR5'.out]); have cl : w3.cell? ⟨p5, k, none⟩ = some (.bool (doesTo os bs k k)) := (cell_of_row _ _ _ _ _ _ HR5'.out).trans (bitCells_get _ _ hk14); clear e3 hB hR4 hR5 hcon))
      go_roundw
      case measure => simp [intOf]; omega
      case rel =>
        refine ⟨k + 1, by omega, by go_num, Lib.hid (set_kept HE3.out HP.out.2.1), Lib.hid ((heap_set_other _ _ _ _ _ HP.out.2.2).trans HR4'.out), Lib.hid ?_⟩
        rw [row_setCell _ _ _ _ _ _ _ HR5'.out]
        congr 2
        apply Array.ext_getElem?
        intro i
        by_cases hi : i < 14
        · rw [bitCells_get _ i hi, HS.out i hi, Array.getElem?_setIfInBounds]
          by_cases e : k = i
          · subst e
            rw [if_pos rfl, if_pos (by rw [bitCells_size]; exact hi), if_pos rfl]
          · rw [if_neg e, if_neg (fun h => e h.symm), bitCells_get _ i hi]
        · rw [Array.getElem?_eq_none (by simp [bitCells_size]; omega), Array.getElem?_eq_none (by rw [bitCells_size]; omega)]
    · have hltz : ¬ (k : Int) < (os.length : Int) := by omega
      obtain rfl : k = os.length := by omega
      go_wp2_with (first | refine wpList_load83 (.tmp 5) rfl rfl p5 rfl (bitCells (doesTo os bs os.length)) (bitCells_size _) hR5.out ?_ | refine wpList_store83 (.tmp 4) (.tmp 22) rfl rfl p4 rfl (bitCells (doesTo os bs os.length)) (bitCells noBits) (bitCells_size _) (bitCells_size _) (bitCells_one _) rfl hR4.out ?_)
      refine bodyPost_ret (v := .agg (bitCells (doesTo os bs os.length))) (results_row 83 rfl _ _ p4 _ rfl (run_loadVar_row (P := Tryz.prog) _ _ 83 83 _ (0, 0) _ (row_setRow _ _ _ _ _ _ hR4.out) Tryz.underlying83 rfl (by rw [size83, bitCells_size]))) rfl ⟨rfl, below_setRow hB.out HP.out.1 _⟩

set_option maxRecDepth 100000 in
set_option maxHeartbeats 4000000 in
theorem all_any {A : Option Addr} {c : Nat} {os : List Odr} {w : World} (hn14 : os.length ≤ 14) :
    Calls Tryz.prog 71 #[.slice A os.length c] w fun e w' => e = .returned (.agg (bitCells (fun i => decide (i < os.length)))) ∧ Ext w w' := by
  have E2 : Ext w ((w.alloc (.cells (bitCells noBits) 83)).alloc (.cells (bitCells noBits) 83)) := (ext_alloc _ _).trans (ext_alloc _ _)
  have r4 : ((w.alloc (.cells (bitCells noBits) 83)).alloc (.cells (bitCells noBits) 83)).heap[w.heap.size]? = some (.cells (bitCells noBits) 83 (0, 0)) := row_alloc _ _ _ _ (row_last _ _ _ rfl)
  have r5 : ((w.alloc (.cells (bitCells noBits) 83)).alloc (.cells (bitCells noBits) 83)).heap[(w.alloc (.cells (bitCells noBits) 83)).heap.size]? = some (.cells (bitCells noBits) 83 (0, 0)) := row_last _ _ _ rfl
  go_enter Tryz.func71, Tryz.ntmps71
  go_upto_region 2 with (refine wpList_alloc83 rfl rfl ?_)
  obtain ⟨w2, hw2⟩ : ∃ w2, (w.alloc (.cells (bitCells noBits) 83)).alloc (.cells (bitCells noBits) 83) = w2 := ⟨_, rfl⟩
  rw [hw2] at E2 r4 r5 ⊢
  obtain ⟨p4, hp4⟩ : ∃ p4, w.heap.size = p4 := ⟨_, rfl⟩
  obtain ⟨p5, hp5⟩ : ∃ p5, (w.alloc (.cells (bitCells noBits) 83)).heap.size = p5 := ⟨_, rfl⟩
  have hp5' : w.heap.size + 1 = p5 := by rw [← hp5]; simp
  rw [hp4] at r4
  rw [hp5] at r5
  have HP := Lib.hid (show w.heap.size ≤ p4 ∧ w.heap.size ≤ p5 ∧ p4 ≠ p5 by omega)
  rw [hp5, hp4]
  simp only [Act.put, List.setIfInBounds_toArray, List.set_cons_succ, List.set_cons_zero]
  have HE := Lib.hid E2
  have HR4 := Lib.hid r4
  have HR5 := Lib.hid r5
  clear E2 r4 r5 hw2 hp4 hp5 hp5'
  go_wp2
  go_loopw [4, 7] (fun _ i wr => ∃ k : Nat, k ≤ os.length ∧ i = .int .i64 k ∧ Hid (Ext w wr) ∧ Hid (wr.heap[p4]? = some (.cells (bitCells noBits) 83 (0, 0))) ∧ Hid (wr.heap[p5]? = some (.cells (bitCells (fun i => decide (i < k))) 83 (0, 0)))) (fun _ i _ => os.length - (intOf i).toNat)
  case atStart => exact ⟨0, Nat.zero_le _, rfl, HE, HR4, Lib.hid (by rw [show (fun i : Nat => decide (i < 0)) = noBits from by funext i; simp [noBits]]; exact HR5.out)⟩
  case round =>
    obtain ⟨k, hk, rfl, hB, hR4, hR5⟩ := hrel
    clear HR4 HR5 HE
    by_cases hlt : k < os.length
    · have hltz : (k : Int) < (os.length : Int) := by omega
      have hk14 : k < 14 := by omega
      have hk14z : (k : Int) < 14 := by omega
      have fz : wr.frozen? ⟨p5, k, none⟩ = false := (by simp [World.frozen?, hR5.out])
      have cl : wr.cell? ⟨p5, k, none⟩ = some (.bool (decide (k < k))) := (cell_of_row _ _ _ _ _ _ hR5.out).trans (bitCells_get _ _ hk14)
      go_wp2
      go_roundw
      case measure => simp [intOf]; omega
      case rel =>
        refine ⟨k + 1, by omega, by go_num, Lib.hid (set_kept hB.out HP.out.2.1), Lib.hid ((heap_set_other _ _ _ _ _ HP.out.2.2).trans hR4.out), Lib.hid ?_⟩
        rw [row_setCell _ _ _ _ _ _ _ hR5.out, bitCells_set (fun i => decide (i < k)) (fun i => decide (i < k + 1)) k (by simp) (fun a _ hne => by
          rw [Bool.eq_iff_iff]
          simp
          omega)]
    · have hltz : ¬ (k : Int) < (os.length : Int) := by omega
      obtain rfl : k = os.length := by omega
      go_wp2_with (first | refine wpList_load83 (.tmp 3) rfl rfl p5 rfl (bitCells _) (bitCells_size _) hR5.out ?_ | refine wpList_store83 (.tmp 2) (.tmp 13) rfl rfl p4 rfl (bitCells _) (bitCells noBits) (bitCells_size _) (bitCells_size _) (bitCells_one _) rfl hR4.out ?_)
      refine bodyPost_ret (v := .agg (bitCells _)) (results_row 83 rfl _ _ p4 _ rfl (run_loadVar_row (P := Tryz.prog) _ _ 83 83 _ (0, 0) _ (row_setRow _ _ _ _ _ _ hR4.out) Tryz.underlying83 rfl (by rw [size83, bitCells_size]))) rfl ⟨rfl, below_setRow hB.out HP.out.1 _⟩
end Go.Proofs.YtmlmnljbegcjcaaGreat

/- Marked, Does. -/
namespace Go.Proofs.YtmlmnljbegcjcaaGreat
open Go.RowKit Go.Shelf
attribute [local irreducible] bitCells

/-- The numbers below k of which p holds. -/
def numsTo (p : Nat → Bool) (k : Nat) : List Int := ((List.range k).filter p).map fun j : Nat => (j : Int)
theorem numsTo_succ (p : Nat → Bool) (k : Nat) : numsTo p (k + 1) = numsTo p k ++ (if p k = true then [(k : Int)] else []) := by
  unfold numsTo
  rw [List.range_succ, List.filter_append, List.map_append]
  cases h : p k <;> simp [h]
theorem numsTo_len (p : Nat → Bool) (k : Nat) : (numsTo p k).length ≤ k := by
  unfold numsTo
  rw [List.length_map]
  exact Nat.le_trans (List.length_filter_le _ _) (by simp)

set_option maxRecDepth 100000 in
set_option maxHeartbeats 2000000 in
theorem marked_any (m : Nat) (M : Nat → Bool) (w : World) (h : w.heap[m]? = some (.cells (bitCells M) 83 (0, 0))) :
    Calls Tryz.prog 58 #[.slice (some ⟨m, 0, none⟩) 14 14] w fun e w' => Ext w w' ∧ ∃ A c, e = .returned (.slice A (numsTo M 14).length c) ∧ Made w.heap.size 3 (numsTo M 14) w' A c := by
  have HM := Lib.hid h
  clear h
  go_enter Tryz.func58, Tryz.ntmps58
  go_wp2
  go_loopw [3, 4, 5, 8] (fun v _ _ i wr => ∃ k : Nat, k ≤ 14 ∧ i = .int .i64 k ∧ Hid (Ext w wr) ∧ Hid (∃ A c, v = .slice A (numsTo M k).length c ∧ Made w.heap.size 3 (numsTo M k) wr A c)) (fun _ _ _ i _ => 14 - (intOf i).toNat)
  case atStart => exact ⟨0, Nat.zero_le _, rfl, Lib.hid (Ext.refl _), Lib.hid ⟨none, 0, rfl, World.ownsRow_nil _ _ _ _⟩⟩
  case round =>
    obtain ⟨k, hk, rfl, hB, hO⟩ := hrel
    by_cases hlt : k < 14
    · have hltz : (k : Int) < 14 := by omega
      have hc : wr.cell? ⟨m, k, none⟩ = some (.bool (M k)) := (cell_of_row _ _ _ _ _ _ (row_ext HM.out hB.out)).trans (bitCells_get _ _ hlt)
      have hs := numsTo_succ M k
      have hl := numsTo_len M k
      obtain ⟨A, c, rfl, hW⟩ := hO.out
      clear hO
      obtain ⟨l, hll⟩ : ∃ l, numsTo M k = l := ⟨_, rfl⟩
      rw [hll] at hs hW hl
      rw [hll]
      have hsz := hB.out.size
      cases hq : M k with
      | true =>
        rw [hq] at hc
        rw [hq, if_pos rfl] at hs
        have HS := Lib.hid hs
        have oA := hW.alloc (.cells #[.int .i64 (k : Int)] 3)
        have HO := Lib.hid oA
        clear hs hq hll hW oA
        go_wp2_with (at_builtin; refine wpList_app1 rfl 14 16 30 3 rfl Tryz.underlying30 _ 1 8 info3 rfl (by decide) (by decide) w.heap.size l.length _ _ rfl HO.out wr.heap.size [.int .i64 (k : Int)] rfl rfl (row_last _ _ _ rfl) (encI_one _) (by omega) (by have := hB.out.size; simp; omega) ?_; intro A9 c9 w3 hown hB3 _; have HW := Lib.hid hown; have HE3 := Lib.hid (Below.trans (hB.out.trans (ext_alloc _ _)) hB3 : Ext w w3); clear hown hB3)
        go_roundw
        case measure => simp [intOf]; omega
        case rel =>
          refine ⟨k + 1, by omega, by go_num, HE3, Lib.hid ⟨A9, c9, ?_, ?_⟩⟩
          · rw [HS.out, List.length_append]; rfl
          · unfold Made
            rw [HS.out, List.length_append, List.map_append]
            exact HW.out
      | false =>
        rw [hq] at hc
        rw [hq, if_neg (by decide), List.append_nil] at hs
        have HS := Lib.hid hs
        have HO := Lib.hid hW
        clear hs hq hll hW
        go_wp2
        go_roundw
        case measure => simp [intOf]; omega
        case rel => exact ⟨k + 1, by omega, by go_num, hB, by rw [HS.out]; exact Lib.hid ⟨A, c, rfl, HO.out⟩⟩
    · have hltz : ¬ (k : Int) < 14 := by omega
      obtain rfl : k = 14 := by omega
      obtain ⟨A, c, rfl, hW⟩ := hO.out
      have HO := Lib.hid hW
      clear hO hW
      go_wp2
      go_ret
      exact ⟨hB.out, A, c, rfl, HO.out⟩

/-- What Does answers. -/
def doesOf (os : List Odr) (x : Int) : List Int := if ordersErr os = 0 then numsTo (doesB os [x]) 14 else []
/-- A list of ints and an error. -/
def IntsPost (e3 : TypeId) (l : List Int) (err : Int) (w : World) (e : Ending) (w' : World) : Prop := Ext w w' ∧ ∃ A c, e = .returned (.tuple #[.slice A l.length c, .int .i64 err]) ∧ Held w' w'.heap.size 1 encI A l ∧ l.length ≤ c ∧ w'.ownsRow w.heap.size e3 1 (.slice A l.length c) l.length (l.map (Value.int .i64))
theorem ints_none (e3 : TypeId) (err : Int) {w w' : World} (h : Ext w w') : IntsPost e3 [] err w (.returned (.tuple #[.slice none 0 0, .int .i64 err])) w' := ⟨h, none, 0, rfl, .inl rfl, Nat.le_refl _, World.ownsRow_nil _ _ _ _⟩
theorem ints_made {e3 : TypeId} {l : List Int} {w w1 w' : World} {A : Option Addr} {c : Nat} (h : Ext w w') (hm : Made w1.heap.size e3 l w' A c) (h1 : Ext w w1) : IntsPost e3 l 0 w (.returned (.tuple #[.slice A l.length c, .int .i64 0])) w' := ⟨h, A, c, rfl, hm.held.1, hm.held.2, owns_mono hm h1.size⟩

set_option maxRecDepth 100000 in
set_option maxHeartbeats 2000000 in
theorem does18_any {A : Option Addr} {n c : Nat} {os : List Odr} {w : World} (h : IsOrders w A n c os) (x : Int) :
    Calls Tryz.prog 18 #[.slice A n c, .int .i64 x] w (IntsPost 3 (doesOf os x) (ordersErr os) w) := by
  have h52 := opened_any h
  obtain ⟨E, hE⟩ : ∃ E, ordersErr os = E := ⟨_, rfl⟩
  have hd : doesOf os x = if E = 0 then numsTo (doesB os [x]) 14 else [] := by rw [← hE]; rfl
  obtain ⟨ds, hds⟩ : ∃ ds, doesOf os x = ds := ⟨_, rfl⟩
  rw [hds] at hd ⊢
  rw [hE] at h52 ⊢
  have HD := Lib.hid hd
  clear hd hds hE h
  go_enter Tryz.func18, Tryz.ntmps18
  go_wp2_with fail
  refine h52.mono ?_
  rintro e w1 ⟨e1, ⟨hn, rfl⟩ | ⟨rfl, A1, c1, rfl, hbk⟩⟩
  · have HE := Lib.hid e1
    have hd := HD.out
    rw [if_neg hn] at hd
    subst hd
    clear e1 h52
    go_wp2
    go_ret2
    exact ints_none 3 _ HE.out
  · have HE := Lib.hid e1
    have hd := HD.out
    rw [if_pos rfl] at hd
    replace HD := Lib.hid hd
    have HB := Lib.hid (hbk.ext (ext_alloc w1 (.cells #[.int .i64 x] 2)))
    have h57 := does_any HB.out (some ⟨w1.heap.size, 0, none⟩) 1 1 [x] rfl (by decide) (held_row (row_last _ _ _ rfl) rfl)
    clear e1 h52 hd hbk
    go_wp2_with (first | (refine h57.mono ?_; rintro e w2 ⟨rfl, e2⟩; have HE2 := Lib.hid ((HE.out.trans (ext_alloc _ _)).trans e2); clear e2 h57) | refine wpList_alloc83 rfl rfl ?_ | refine wpList_store83 (.tmp 8) (.tmp 20) rfl rfl w2.heap.size rfl (bitCells (doesB os [x])) (bitCells noBits) (bitCells_size _) (bitCells_size _) (bitCells_one _) rfl (row_last _ _ _ rfl) ?_)
    obtain ⟨w3, hw3⟩ : ∃ w3, (w2.alloc (.cells (bitCells noBits) 83)).setRow w2.heap.size (bitCells (doesB os [x])) = w3 := ⟨_, rfl⟩
    have e3 : Ext w2 w3 := by rw [← hw3]; exact below_setRow (ext_alloc _ _) (Nat.le_refl _) _
    have r3 : w3.heap[w2.heap.size]? = some (.cells (bitCells (doesB os [x])) 83 (0, 0)) := by rw [← hw3]; exact row_setRow _ _ _ _ _ _ (row_last _ _ _ rfl)
    rw [hw3]
    have h58 := marked_any w2.heap.size (doesB os [x]) w3 r3
    have HE3 := Lib.hid (HE2.out.trans e3)
    rw [← HD.out] at h58
    clear hw3 e3 r3
    go_wp2_with (first | refine wpList_slice83 (.tmp 8) rfl rfl w2.heap.size rfl ?_ | (refine h58.mono ?_; rintro e w4 ⟨e4, A4, c4, rfl, hm⟩; have HE4 := Lib.hid (HE3.out.trans e4); have HM := Lib.hid hm; clear e4 hm h58))
    go_ret2
    exact ints_made HE4.out HM.out HE3.out
end Go.Proofs.YtmlmnljbegcjcaaGreat

/- rising: whether each number is greater than the one before it. -/
namespace Go.Proofs.YtmlmnljbegcjcaaGreat
open Go.RowKit Go.Shelf

theorem rises_all (xs : List Int) (h : ∀ j, ∀ (hj : j + 1 < xs.length), xs[j] < xs[j + 1]) : xs.Pairwise (· < ·) := by
  rw [List.pairwise_iff_getElem]
  intro i j hi hj hij
  obtain ⟨d, rfl⟩ : ∃ d, j = i + 1 + d := ⟨j - i - 1, by omega⟩
  clear hij
  induction d with
  | zero => exact h i hj
  | succ d ih => exact Int.lt_trans (ih (by omega)) (h (i + 1 + d) hj)
theorem falls_one (xs : List Int) (j : Nat) (hj : j + 1 < xs.length) (h : xs[j + 1] ≤ xs[j]) : ¬ xs.Pairwise (· < ·) := by
  intro hp
  have := (List.pairwise_iff_getElem.1 hp) j (j + 1) (by omega) hj (by omega)
  omega

set_option maxHeartbeats 400000 in
theorem risingInt (A : Option Addr) (n c : Nat) (xs : List Int) (w : World) (hnn : n = xs.length)
    (hn : n ≤ 9223372036854775807) (hh : Held w w.heap.size 1 encI A xs) :
    Calls Tryz.prog 75 #[.slice A n c] w fun e w' => e = .returned (.bool (decide (xs.Pairwise (· < ·)))) ∧ Below w.heap.size w w' := by
  have HN := Lib.hid hnn; clear hnn
  go_enter Tryz.func75, Tryz.ntmps75
  go_wp2
  go_loopw [2, 3] (fun _ i wr => ∃ k : Nat, 1 ≤ k ∧ (k = 1 ∨ k ≤ n) ∧ i = .int .i64 k ∧ Hid (Below w.heap.size w wr) ∧ Hid (∀ j, j + 1 < k → ∀ (hl : j + 1 < xs.length), xs[j] < xs[j + 1])) (fun _ i _ => n + 1 - (intOf i).toNat)
  case atStart => exact ⟨1, Nat.le_refl _, .inl rfl, rfl, Lib.hid (Below.refl _ _), Lib.hid (fun j hj => absurd hj (by omega))⟩
  case round =>
    obtain ⟨k, hk1, hk, rfl, hB, hA⟩ := hrel
    by_cases hlt : k < n
    · have hltz : (k : Int) < (n : Int) := by omega
      obtain ⟨j, rfl⟩ : ∃ j, k = j + 1 := ⟨k - 1, by omega⟩
      have hjl : j + 1 < xs.length := by rw [← HN.out]; exact hlt
      obtain ⟨x, hx⟩ : ∃ x, x = xs[j] := ⟨_, rfl⟩
      obtain ⟨y, hy⟩ : ∃ y, y = xs[j + 1] := ⟨_, rfl⟩
      have hcell : ∃ b off, A = some ⟨b, off, none⟩ ∧ wr.cell? ⟨b, off + j, none⟩ = some (.int .i64 x) ∧ wr.cell? ⟨b, off + (j + 1), none⟩ = some (.int .i64 y) := by
        rcases hh with h | ⟨b, off, rfl, hlt', hc⟩
        · simp [h] at hjl
        · refine ⟨b, off, rfl, ?_, ?_⟩
          · have h2 := (hB.out.cell (p := ⟨b, off + j * 1 + 0, none⟩) hlt').trans (hc j x (by rw [hx]; exact List.getElem?_eq_getElem (by omega)) 0 _ rfl)
            simpa using h2
          · have h2 := (hB.out.cell (p := ⟨b, off + (j + 1) * 1 + 0, none⟩) hlt').trans (hc (j + 1) y (by rw [hy]; exact List.getElem?_eq_getElem hjl) 0 _ rfl)
            simpa using h2
      obtain ⟨b, off, rfl, hc0, hc1⟩ := hcell
      have HX := Lib.hid hx
      have HY := Lib.hid hy
      clear hx hy hh
      have hsub : ((j + 1 : Nat) : Int) - 1 = (j : Int) := by omega
      by_cases hle : y ≤ x
      · go_wp2
        go_quiet (fail)
        go_wp2
        go_ret
        refine ⟨ret_bool ?_, bdrewN hB.out _⟩
        have := falls_one xs j hjl (by rw [← HX.out, ← HY.out]; exact hle)
        simp [this]
      · go_wp2
        go_quiet (fail)
        go_wp2
        go_roundw
        case measure => simp [intOf]; omega
        case rel =>
          refine ⟨j + 1 + 1, by omega, by omega, by go_num, Lib.hid (bdrewN hB.out _), Lib.hid fun i hi hl => ?_⟩
          by_cases e : i = j
          · subst e
            rw [← HX.out, ← HY.out]
            omega
          · exact hA.out i (by omega) hl
    · have hltz : ¬ (k : Int) < (n : Int) := by omega
      go_wp2
      go_ret
      refine ⟨ret_bool ?_, hB.out⟩
      have := rises_all xs (fun j hj => hA.out j (by have := HN.out; omega) hj)
      simp [this]

set_option maxHeartbeats 400000 in
theorem risingLong (A : Option Addr) (n c : Nat) (xs : List Int) (w : World) (hnn : n = xs.length)
    (hn : n ≤ 9223372036854775807) (hh : Held w w.heap.size 1 encI A xs) :
    Calls Tryz.prog 93 #[.slice A n c] w fun e w' => e = .returned (.bool (decide (xs.Pairwise (· < ·)))) ∧ Below w.heap.size w w' := by
  have HN := Lib.hid hnn; clear hnn
  go_enter Tryz.func93, Tryz.ntmps93
  go_wp2
  go_loopw [2, 3] (fun _ i wr => ∃ k : Nat, 1 ≤ k ∧ (k = 1 ∨ k ≤ n) ∧ i = .int .i64 k ∧ Hid (Below w.heap.size w wr) ∧ Hid (∀ j, j + 1 < k → ∀ (hl : j + 1 < xs.length), xs[j] < xs[j + 1])) (fun _ i _ => n + 1 - (intOf i).toNat)
  case atStart => exact ⟨1, Nat.le_refl _, .inl rfl, rfl, Lib.hid (Below.refl _ _), Lib.hid (fun j hj => absurd hj (by omega))⟩
  case round =>
    obtain ⟨k, hk1, hk, rfl, hB, hA⟩ := hrel
    by_cases hlt : k < n
    · have hltz : (k : Int) < (n : Int) := by omega
      obtain ⟨j, rfl⟩ : ∃ j, k = j + 1 := ⟨k - 1, by omega⟩
      have hjl : j + 1 < xs.length := by rw [← HN.out]; exact hlt
      obtain ⟨x, hx⟩ : ∃ x, x = xs[j] := ⟨_, rfl⟩
      obtain ⟨y, hy⟩ : ∃ y, y = xs[j + 1] := ⟨_, rfl⟩
      have hcell : ∃ b off, A = some ⟨b, off, none⟩ ∧ wr.cell? ⟨b, off + j, none⟩ = some (.int .i64 x) ∧ wr.cell? ⟨b, off + (j + 1), none⟩ = some (.int .i64 y) := by
        rcases hh with h | ⟨b, off, rfl, hlt', hc⟩
        · simp [h] at hjl
        · refine ⟨b, off, rfl, ?_, ?_⟩
          · have h2 := (hB.out.cell (p := ⟨b, off + j * 1 + 0, none⟩) hlt').trans (hc j x (by rw [hx]; exact List.getElem?_eq_getElem (by omega)) 0 _ rfl)
            simpa using h2
          · have h2 := (hB.out.cell (p := ⟨b, off + (j + 1) * 1 + 0, none⟩) hlt').trans (hc (j + 1) y (by rw [hy]; exact List.getElem?_eq_getElem hjl) 0 _ rfl)
            simpa using h2
      obtain ⟨b, off, rfl, hc0, hc1⟩ := hcell
      have HX := Lib.hid hx
      have HY := Lib.hid hy
      clear hx hy hh
      have hsub : ((j + 1 : Nat) : Int) - 1 = (j : Int) := by omega
      by_cases hle : y ≤ x
      · go_wp2
        go_quiet (fail)
        go_wp2
        go_ret
        refine ⟨ret_bool ?_, bdrewN hB.out _⟩
        have := falls_one xs j hjl (by rw [← HX.out, ← HY.out]; exact hle)
        simp [this]
      · go_wp2
        go_quiet (fail)
        go_wp2
        go_roundw
        case measure => simp [intOf]; omega
        case rel =>
          refine ⟨j + 1 + 1, by omega, by omega, by go_num, Lib.hid (bdrewN hB.out _), Lib.hid fun i hi hl => ?_⟩
          by_cases e : i = j
          · subst e
            rw [← HX.out, ← HY.out]
            omega
          · exact hA.out i (by omega) hl
    · have hltz : ¬ (k : Int) < (n : Int) := by omega
      go_wp2
      go_ret
      refine ⟨ret_bool ?_, hB.out⟩
      have := rises_all xs (fun j hj => hA.out j (by have := HN.out; omega) hj)
      simp [this]

end Go.Proofs.YtmlmnljbegcjcaaGreat

/- isOrder, hasBirths, openedWhole, openedWith, openedFor, Births. -/
namespace Go.Proofs.YtmlmnljbegcjcaaGreat
open Go.RowKit Go.Shelf
attribute [local irreducible] bitCells

set_option maxHeartbeats 1000000 in
theorem isOrder_any (A : Option Addr) (n c : Nat) (x : Int) (w : World) : Calls Tryz.prog 53 #[.slice A n c, .int .i64 x] w fun e w' => e = .returned (.bool (decide (0 ≤ x) && decide (x < n))) ∧ Below w.heap.size w w' := by
  by_cases h1 : 0 ≤ x
  · by_cases h2 : x < n
    · go_enter Tryz.func53, Tryz.ntmps53
      go_wp2
      go_ret
      exact ⟨by simp [h1, h2], Below.refl _ _⟩
    · go_enter Tryz.func53, Tryz.ntmps53
      go_wp2
      go_ret
      exact ⟨ret_bool (by simp; omega), Below.refl _ _⟩
  · go_enter Tryz.func53, Tryz.ntmps53
    go_wp2
    go_ret
    exact ⟨ret_bool (by simp; omega), Below.refl _ _⟩
set_option maxHeartbeats 1000000 in
theorem hasBirths_any (o : Odr) (w : World) : Calls Tryz.prog 54 #[.agg #[.int .i64 o.lo, .int .i64 o.hi, .int .i64 o.young, .int .i64 o.old, .int .i64 o.worth, .int .i64 (bLo o), .int .i64 (bHi o)]] w fun e w' => e = .returned (.bool (hasB o)) ∧ Below w.heap.size w w' := by
  have hq : decide (bLo o ≤ bHi o) = hasB o := rfl
  generalize hasB o = q at hq ⊢
  generalize bLo o = lo at hq ⊢
  generalize bHi o = hi at hq ⊢
  have HQ := Lib.hid hq
  clear hq
  by_cases h : lo ≤ hi
  · go_enter Tryz.func54, Tryz.ntmps54
    go_wp2
    go_ret
    exact ⟨ret_bool (by rw [← HQ.out, decide_eq_true h]), ext_alloc _ _⟩
  · go_enter Tryz.func54, Tryz.ntmps54
    go_wp2
    go_ret
    exact ⟨ret_bool (by rw [← HQ.out, decide_eq_false (by omega)]), ext_alloc _ _⟩
/-- Whether an order's births, by its number. -/
theorem hasPred (os : List Odr) (w : World) : PredOn 54 #[] (fun x => .agg (encE x).toArray) hasB os w := fun W x _ _ => hasBirths_any x W

/-- The error of orders of which some have no births. -/
def wholeErr (os : List Odr) : Int := if ordersErr os = 0 then if os.all hasB then 0 else 22 else ordersErr os
theorem whole_ok {os : List Odr} (h : wholeErr os = 0) : ordersErr os = 0 ∧ Whole os := by
  unfold wholeErr at h
  split at h
  · rename_i h0
    split at h
    · rename_i h1
      exact ⟨h0, fun o ho => List.all_eq_true.1 h1 o ho⟩
    · cases h
  · rename_i h0
    exact absurd h h0

set_option maxHeartbeats 2000000 in
theorem openedWhole_any {A : Option Addr} {n c : Nat} {os : List Odr} {w : World} (h : IsOrders w A n c os) :
    Calls Tryz.prog 64 #[.slice A n c] w (OpenPost os (wholeErr os) w) := by
  have h52 := opened_any h
  have e54 : ∀ args w, (callFunc 54 args).run Tryz.prog w = .ok (.enter 54 args) w := enters_of Tryz.func54 (by kernel_rfl) rfl
  have h91 : ∀ W A1 c1, IsBook W A1 c1 os → Calls Tryz.prog 91 #[.slice A1 os.length c1, .func (.func 54) #[] #[]] W fun e w' => e = .returned (.bool (os.all hasB)) ∧ Below W.heap.size W w' := fun W A1 c1 hb => everyEnt 54 #[] e54 hasB A1 os.length c1 os W rfl (by have := hb.few.2; omega) hb.held (hasPred os W)
  obtain ⟨F, hF⟩ : ∃ F, wholeErr os = F := ⟨_, rfl⟩
  obtain ⟨E, hE⟩ : ∃ E, ordersErr os = E := ⟨_, rfl⟩
  have hd : F = if E = 0 then if os.all hasB then 0 else 22 else E := by rw [← hE, ← hF]; rfl
  obtain ⟨q, hq⟩ : ∃ q, os.all hasB = q := ⟨_, rfl⟩
  rw [hF]
  rw [hE] at h52
  simp only [hq] at h91
  rw [hq] at hd
  have HD := Lib.hid hd
  have H91 := Lib.hid h91
  clear hd hq hE hF h h91
  go_enter Tryz.func64, Tryz.ntmps64
  go_wp2_with fail
  refine h52.mono ?_
  rintro e w1 ⟨e1, ⟨hn, rfl⟩ | ⟨rfl, A1, c1, rfl, hbk⟩⟩
  · have HE := Lib.hid e1
    have hd := HD.out
    rw [if_neg hn] at hd
    subst hd
    clear e1 h52
    go_wp2
    go_ret2
    exact ⟨HE.out, .inl ⟨hn, rfl⟩⟩
  · have HE := Lib.hid e1
    have hd := HD.out
    rw [if_pos rfl] at hd
    replace HD := Lib.hid hd
    have HB := Lib.hid hbk
    have h91 := H91.out w1 A1 c1 hbk
    clear e1 h52 hd hbk
    cases q with
    | true =>
      have hd := HD.out
      rw [if_pos rfl] at hd
      subst hd
      go_wp2_with (refine h91.mono ?_; rintro e w2 ⟨rfl, e2⟩; have HE2 := Lib.hid (HE.out.trans e2); have HB2 := Lib.hid (HB.out.ext e2); clear e2 h91)
      go_ret2
      exact ⟨HE2.out, .inr ⟨rfl, _, _, rfl, HB2.out⟩⟩
    | false =>
      have hd := HD.out
      rw [if_neg (by decide)] at hd
      subst hd
      go_wp2_with (refine h91.mono ?_; rintro e w2 ⟨rfl, e2⟩; have HE2 := Lib.hid (HE.out.trans e2); clear e2 h91)
      go_ret2
      exact ⟨HE2.out, .inl ⟨by decide, rfl⟩⟩

/-- The error of births as baths. -/
def bathsErr (bs : List Int) : Int := if bs.length ≤ 14 then if bs.Pairwise (· < ·) ∧ bs.all (inside (-10000) 10000) = true then 0 else 3 else 6
def withErr (os : List Odr) (bs : List Int) : Int := if ordersErr os = 0 then bathsErr bs else ordersErr os
set_option maxHeartbeats 2000000 in
theorem openedWith_any {A : Option Addr} {n c : Nat} {os : List Odr} {w : World} (h : IsOrders w A n c os) (A' : Option Addr) (n' c' : Nat) (bs : List Int) (hn' : n' = bs.length) (hm' : n' ≤ 9223372036854775807) (hh : Held w w.heap.size 1 encI A' bs) :
    Calls Tryz.prog 69 #[.slice A n c, .slice A' n' c'] w (OpenPost os (withErr os bs) w) := by
  have h52 := opened_any h
  have h93 := fun W (hW : Ext w W) => risingLong A' n' c' bs W hn' hm' (hh.ext hW)
  have h61 := fun W (hW : Ext w W) => within (-10000) 10000 A' n' c' bs W hn' hm' (hh.ext hW)
  obtain ⟨F, hF⟩ : ∃ F, withErr os bs = F := ⟨_, rfl⟩
  obtain ⟨E, hE⟩ : ∃ E, ordersErr os = E := ⟨_, rfl⟩
  have hd : F = if E = 0 then (if n' ≤ 14 then if bs.Pairwise (· < ·) ∧ bs.all (inside (-10000) 10000) = true then 0 else 3 else 6) else E := by rw [hn', ← hE, ← hF]; rfl
  obtain ⟨q, hq⟩ : ∃ q, bs.all (inside (-10000) 10000) = q := ⟨_, rfl⟩
  rw [hF]
  rw [hE] at h52
  simp only [hq] at h61
  rw [hq] at hd
  by_cases hp : bs.Pairwise (· < ·)
  all_goals
    first
    | (simp only [decide_eq_true hp] at h93; simp only [hp, true_and] at hd)
    | (simp only [decide_eq_false hp] at h93; simp only [hp, false_and, if_false] at hd)
    have HD := Lib.hid hd
    have H93 := Lib.hid h93
    have H61 := Lib.hid h61
    clear hd hq hE hF h h93 h61 hp hh hn'
    go_enter Tryz.func69, Tryz.ntmps69
    go_wp2_with fail
    refine h52.mono ?_
    rintro e w1 ⟨e1, ⟨hn, rfl⟩ | ⟨rfl, A1, c1, rfl, hbk⟩⟩
    · have HE := Lib.hid e1
      have hd := HD.out
      rw [if_neg hn] at hd
      subst hd
      clear e1 h52
      go_wp2
      go_ret2
      exact ⟨HE.out, .inl ⟨hn, rfl⟩⟩
    · have HE := Lib.hid e1
      have hd := HD.out
      rw [if_pos rfl] at hd
      replace HD := Lib.hid hd
      have HB := Lib.hid hbk
      clear e1 h52 hd hbk
      by_cases h14 : n' ≤ 14
      · have h14z : ¬ (14 < (n' : Int)) := by omega
        have hd := HD.out
        rw [if_pos h14] at hd
        replace HD := Lib.hid hd
        have h93 := H93.out w1 HE.out
        clear hd
        first
        | (have hd := HD.out
           subst hd
           go_wp2_with (refine h93.mono ?_; rintro e w2 ⟨rfl, e2⟩; have HE2 := Lib.hid (HE.out.trans (show Ext w1 w2 from e2)); have HB2 := Lib.hid (HB.out.ext (show Ext w1 w2 from e2)); clear e2 h93)
           go_ret2
           exact ⟨HE2.out, .inl ⟨by decide, rfl⟩⟩)
        | (cases q with
           | true =>
             have hd := HD.out
             rw [if_pos rfl] at hd
             subst hd
             go_wp2_with (first | (refine h93.mono ?_; rintro e w2 ⟨rfl, e2⟩; have HE2 := Lib.hid (HE.out.trans (show Ext w1 w2 from e2)); have HB2 := Lib.hid (HB.out.ext (show Ext w1 w2 from e2)); clear e2 h93; have h61 := H61.out w2 HE2.out) | (refine h61.mono ?_; rintro e w3 ⟨rfl, e3⟩; have HE3 := Lib.hid (HE2.out.trans (show Ext w2 w3 from e3)); have HB3 := Lib.hid (HB2.out.ext (show Ext w2 w3 from e3)); clear e3 h61))
             go_ret2
             exact ⟨HE3.out, .inr ⟨rfl, _, _, rfl, HB3.out⟩⟩
           | false =>
             have hd := HD.out
             rw [if_neg (by decide)] at hd
             subst hd
             go_wp2_with (first | (refine h93.mono ?_; rintro e w2 ⟨rfl, e2⟩; have HE2 := Lib.hid (HE.out.trans (show Ext w1 w2 from e2)); clear e2 h93; have h61 := H61.out w2 HE2.out) | (refine h61.mono ?_; rintro e w3 ⟨rfl, e3⟩; have HE3 := Lib.hid (HE2.out.trans (show Ext w2 w3 from e3)); clear e3 h61))
             go_ret2
             exact ⟨HE3.out, .inl ⟨by decide, rfl⟩⟩)
      · have h14z : (14 < (n' : Int)) := by omega
        have hd := HD.out
        rw [if_neg h14] at hd
        subst hd
        go_wp2
        go_ret2
        exact ⟨HE.out, .inl ⟨by decide, rfl⟩⟩

def forErr (os : List Odr) (x : Int) : Int := if ordersErr os = 0 then if 0 ≤ x ∧ x ≤ 14 then 0 else 2 else ordersErr os
set_option maxHeartbeats 2000000 in
theorem openedFor_any {A : Option Addr} {n c : Nat} {os : List Odr} {w : World} (h : IsOrders w A n c os) (x : Int) :
    Calls Tryz.prog 78 #[.slice A n c, .int .i64 x] w (OpenPost os (forErr os x) w) := by
  have h52 := opened_any h
  obtain ⟨F, hF⟩ : ∃ F, forErr os x = F := ⟨_, rfl⟩
  obtain ⟨E, hE⟩ : ∃ E, ordersErr os = E := ⟨_, rfl⟩
  have hd : F = if E = 0 then if 0 ≤ x ∧ x ≤ 14 then 0 else 2 else E := by rw [← hE, ← hF]; rfl
  have hq : [x].all (inside 0 14) = decide (0 ≤ x ∧ x ≤ 14) := by rw [Bool.eq_iff_iff]; simp [inside]
  rw [hF]
  rw [hE] at h52
  have HD := Lib.hid hd
  have HQ := Lib.hid hq
  clear hd hq hE hF h
  go_enter Tryz.func78, Tryz.ntmps78
  go_wp2_with fail
  refine h52.mono ?_
  rintro e w1 ⟨e1, ⟨hn, rfl⟩ | ⟨rfl, A1, c1, rfl, hbk⟩⟩
  · have HE := Lib.hid e1
    have hd := HD.out
    rw [if_neg hn] at hd
    subst hd
    clear e1 h52
    go_wp2
    go_ret2
    exact ⟨HE.out, .inl ⟨hn, rfl⟩⟩
  · have HE := Lib.hid e1
    have hd := HD.out
    rw [if_pos rfl] at hd
    replace HD := Lib.hid hd
    have HB := Lib.hid hbk
    have h61 := within 0 14 (some ⟨w1.heap.size, 0, none⟩) 1 1 [x] (w1.alloc (.cells #[.int .i64 x] 2)) rfl (by decide) (held_row (row_last _ _ _ rfl) rfl)
    rw [HQ.out] at h61
    clear e1 h52 hd hbk
    by_cases hx : 0 ≤ x ∧ x ≤ 14
    · rw [decide_eq_true hx] at h61
      have hd := HD.out
      rw [if_pos hx] at hd
      subst hd
      clear hx
      go_wp2_with (refine h61.mono ?_; rintro e w2 ⟨rfl, e2⟩; have HE2 := Lib.hid ((HE.out.trans (ext_alloc _ _)).trans (show Ext _ w2 from e2)); have HB2 := Lib.hid ((HB.out.ext (ext_alloc _ _)).ext (show Ext _ w2 from e2)); clear e2 h61)
      go_ret2
      exact ⟨HE2.out, .inr ⟨rfl, _, _, rfl, HB2.out⟩⟩
    · rw [decide_eq_false hx] at h61
      have hd := HD.out
      rw [if_neg hx] at hd
      subst hd
      clear hx
      go_wp2_with (refine h61.mono ?_; rintro e w2 ⟨rfl, e2⟩; have HE2 := Lib.hid ((HE.out.trans (ext_alloc _ _)).trans (show Ext _ w2 from e2)); clear e2 h61)
      go_ret2
      exact ⟨HE2.out, .inl ⟨by decide, rfl⟩⟩
end Go.Proofs.YtmlmnljbegcjcaaGreat

/- An index into marks by value. -/
namespace Go.Proofs.YtmlmnljbegcjcaaGreat
open Go.RowKit Go.Shelf
attribute [local irreducible] bitCells
theorem run_index83 (M : Nat → Bool) (k : Nat) (hk : k < 14) (w : World) : (Instr.index 83 (.agg (bitCells M)) (.int .i64 (k : Int))).run Tryz.prog w = .ok (.bool (M k)) w := by
  have u83 : Tryz.prog.underlying 83 = some (.array 14 4) := by kernel_rfl
  have hb : 0 ≤ (k : Int) ∧ (k : Int) < ((14 : Nat) : Int) := by omega
  have hc : Tryz.prog.cellsOf 4 = 1 := by kernel_rfl
  have h1 := bitCells_get M k hk
  have u4 := Tryz.underlying4
  have a4 := Tryz.isAgg4
  have s4 := Tryz.sizeOf4 w
  simp [Instr.index, run_underlying u83, asIntOf, hb, go_sem, s4, hk, h1]
end Go.Proofs.YtmlmnljbegcjcaaGreat
