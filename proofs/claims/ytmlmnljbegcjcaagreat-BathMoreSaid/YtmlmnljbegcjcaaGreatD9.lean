/- Texts of one package, joined: EndsSeq, Next, Due, Best, Costs, AreApart, CheckApart, Together. -/
import Derived.Test.YtmlmnljbegcjcaaGreatD8
import Derived.WalkMore
import Derived.Sort.CutIn
/- births, as what ranges over it may use. -/
namespace Go.Proofs.YtmlmnljbegcjcaaGreat
open Go.RowKit Go.Shelf
attribute [local go_sem] Oper.semAt_some
attribute [local irreducible] bitCells

theorem abides_ext {β : Type} {B : Nat} {J : β → World → Prop} (h : AbidesFrom B J) (s : β) (X X' : World) (hs : J s X) (e : Ext X X') : J s X' :=
  h s X X' none hs ⟨e.os, e.tape, e.output, e.size, fun i hi _ => e.block i hi⟩ (fun r e => by cases e)
theorem heap_kept {A B : World} {row : Option Nat} {b : Nat} {cs : Array Value} {t : TypeId} {fr : Nat × Nat} (h : A.heap[b]? = some (.cells cs t fr)) (hg : A.grownBy B row) (hr : ∀ r, row = some r → ∃ o : Obj, A.heap[r]? = some o ∧ o.isCells = false) : B.heap[b]? = some (.cells cs t fr) := by
  rw [hg.block b (Array.getElem?_eq_some_iff.1 h).1 (fun e => by
    obtain ⟨o, ho, hc⟩ := hr b e.symm
    rw [h] at ho
    cases ho
    cases hc), h]
theorem owns_row_kept {W W' : World} {row : Option Nat} {base : Nat} {e : TypeId} {size n : Nat} {v : Value} {xs : List Value} (h : W.ownsRow base e size v n xs) (hg : W.grownBy W' row)
    (hr : ∀ r, row = some r → ∃ o : Obj, W.heap[r]? = some o ∧ o.isCells = false) : W'.ownsRow base e size v n xs := by
  refine ⟨h.1, h.2.imp id ?_⟩
  rintro ⟨g, cap, cur, hv, hb, hrow, r⟩
  exact ⟨g, cap, cur, hv, hb, heap_kept hrow hg hr, r⟩
/-- The mark that a range over a function leaves among the deferred calls. -/
abbrev markOf (D : Nat) : Deferred := { target := .collected D, args := #[] }
/-- The blocks Ds, and no others, were shut. -/
structure ShutOf (Ds : List Nat) (W W' : World) : Prop where
  os : W'.os = W.os
  tape : W'.tape = W.tape
  output : W'.output = W.output
  size : W'.heap.size = W.heap.size
  block : ∀ i, i ∉ Ds → W'.heap[i]? = W.heap[i]?
theorem ShutOf.below {Ds : List Nat} {W W' : World} {B : Nat} (h : ShutOf Ds W W') (hB : ∀ D, D ∈ Ds → B ≤ D) : Below B W W' :=
  ⟨h.os, h.tape, h.output, by rw [h.size]; exact Nat.le_refl _, fun i hi => h.block i (fun e => by have := hB i e; omega)⟩

theorem leavesM_marks {F : Fence} {n : Nat} {P : Program} {fn : Func} {tmps : Array Value} {R : Ending → World → Prop} : ∀ (Ds : List Nat) (W : World), Ds.Nodup → (∀ D, D ∈ Ds → W.heap[D]? = some (.deferred (some []))) →
    (∀ W', ShutOf Ds W W' → LeavesInM F n P fn tmps R [] .returning W') → LeavesInM F n P fn tmps R (Ds.map markOf) .returning W
  | [], W, _, _, h => h W ⟨rfl, rfl, rfl, rfl, fun _ _ => rfl⟩
  | D :: Ds, W, hn, hall, h => by
    have hD := hall D (by simp)
    rw [List.nodup_cons] at hn
    have hg := grownBy_putObj' W D (.deferred none)
    have hz : (W.putObj D (.deferred none)).heap.size = W.heap.size := by simp [World.putObj]
    refine ⟨by simp, .inl ⟨D, _, rfl, run_takeDeferred hD, leavesM_marks Ds _ hn.2 (fun E hE => ?_) (fun W' hs => h W' ?_)⟩⟩
    · have hlt : E < W.heap.size := (Array.getElem?_eq_some_iff.1 (hall E (by simp [hE]))).1
      exact (hg.block E hlt (fun e => hn.1 (by cases e; exact hE))).trans (hall E (by simp [hE]))
    · refine ⟨hs.os.trans hg.os, hs.tape.trans hg.tape, hs.output.trans hg.output, hs.size.trans hz, fun i hi => ?_⟩
      rw [List.mem_cons, not_or] at hi
      rw [hs.block i hi.2]
      show (W.heap.setIfInBounds D _)[i]? = _
      rw [Array.getElem?_setIfInBounds_ne (fun e => hi.1 e.symm)]

theorem enters124 : ∀ args w, (callFunc 124 args).run Tryz.prog w = .ok (.enter 124 args) w := enters_of Tryz.func124 (by kernel_rfl) rfl
section
variable {pe pb : Nat} {A : Option Addr} {c : Nat} {os : List Odr} {A2 : Option Addr} {c2 : Nat}
theorem ends_stops (N : Nat) (hn : 1 ≤ N) (w : World) (hb : EndsAt w pe pb A c os A2 c2) (hS : ∀ b, OnEnds pe pb A A2 b → b < w.heap.size) :
    SeqStopsK Fence.wide N Tryz.prog 124 #[.pointer (some ⟨pe, 0, none⟩), .pointer (some ⟨pb, 0, none⟩)] (fun x : Int => #[Value.int .i64 x]) (KeepsOn (OnEnds pe pb A A2)) (fun ys => ys = endsOf os) (fun pre => pre <+: endsOf os) (endsOf os).length w := fun l J Jx W hW hJ _ hY h1 =>
  ends1_in N hn l J Jx hY W (hb.ext (show Ext w W from hW)) (fun b h => Nat.lt_of_lt_of_le (hS b h) hW.size) (abides_ext hJ) h1
theorem keepsOn_b {S : Nat → Prop} {n : Nat} (hS : ∀ b, S b → b < n) (W : World) (l : Nat) (o o' : Obj) (hl : n ≤ l) (_h : W.heap[l]? = some o) (_hc : o.isCells = false) (_hw : o.isWalk = false) : KeepsOn S W (W.putObj l o') := by
  have hg := grownBy_putObj' W l o'
  exact ⟨hg.size, fun b hb => by
    have hbn := hS b hb
    by_cases hbl : b < W.heap.size
    · exact hg.block b hbl (fun e => by have := Option.some.inj e; omega)
    · have hl' := (Array.getElem?_eq_some_iff.1 _h).1
      omega⟩
/-- What lies in the blocks of the iterator, is there. -/
theorem EndsAt.on {W : World} (h : EndsAt W pe pb A c os A2 c2) : ∀ b, OnEnds pe pb A A2 b → b < W.heap.size := by
  rintro b (rfl | rfl | ⟨o, rfl⟩ | ⟨o, rfl⟩)
  · exact (Array.getElem?_eq_some_iff.1 h.rowe).1
  · exact (Array.getElem?_eq_some_iff.1 h.rowb).1
  · obtain ⟨b', o', e, hl, _⟩ := h.book.at (j := 0) h.book.few.1
    injection e with e
    injection e with e
    omega
  · have h0 : 0 < (sortD (os.map bHi)).length := by
      have hm : ∃ x, x ∈ os.map bHi := by
        have := h.book.few.1
        match os, this with
        | o :: _, _ => exact ⟨bHi o, by simp⟩
      obtain ⟨x, hx⟩ := hm
      exact List.length_pos_of_mem (mem_sortD.2 hx)
    rcases h.held with he | ⟨b', o', e, hl, _⟩
    · rw [he] at h0; simp at h0
    · injection e with e
      injection e with e
      omega
end
end Go.Proofs.YtmlmnljbegcjcaaGreat

/- next: the order that is not done whose births end first. -/
namespace Go.Proofs.YtmlmnljbegcjcaaGreat
open Go.RowKit Go.Shelf
attribute [local go_sem] Oper.semAt_some
attribute [local irreducible] bitCells

theorem wpIn_scope_wide {n : Nat} {P : Program} {c : Code} {Q : Exit → Act → World → Prop} {a : Act} {w : World} (h : c.wpIn Fence.wide n P (Exit.noGoto Q) a w) : (Code.scope c).wpIn Fence.wide n P Q a w := wpIn_wide.2 (wp_scope_straight (wpIn_wide.1 h))

theorem keepsOthers_below {W W' : World} (h : Below W.heap.size W W') : KeepsOthers W W' :=
  ⟨h.size, fun k _ hk _ => (h.block k (Array.getElem?_eq_some_iff.1 hk).1).trans hk⟩
/-- Which order of those that are not done ends at a birth. -/
def atEnd (os : List Odr) (M : Nat → Bool) (x : Int) : Option Nat := (List.range os.length).find? fun i => !M i && bHi (oAt os i) == x
theorem next_pre {f : Int → Option Nat} {es pre : List Int} {x : Int} {k : Nat} (h : pre ++ [x] <+: es) (h0 : ∀ z, z ∈ pre → f z = none) (h1 : f x = some k) : es.findSome? f = some k := by
  obtain ⟨t, rfl⟩ := h
  rw [List.append_assoc, List.findSome?_append, (List.findSome?_eq_none_iff).2 h0]
  simp [h1]
def nextAns (o : Option Nat) : Value := match o with
  | some k => .tuple #[.int .i64 (k : Int), .bool true]
  | none => .tuple #[.int .i64 0, .bool false]

set_option maxRecDepth 100000 in
set_option maxHeartbeats 4000000 in
theorem next_any {A : Option Addr} {c : Nat} {os : List Odr} {w : World} (hb : IsBook w A c os) (M : Nat → Bool) :
    Calls Tryz.prog 92 #[.slice A os.length c, .agg (bitCells M)] w fun e w' => e = .returned (nextAns (nextOf os M)) ∧ Ext w w' := by
  have HB := Lib.hid hb
  have h14 := hb.few.2
  have h1 := hb.few.1
  clear hb
  refine (callsIn_wide (n := 12)).1 ?_
  refine callsIn_of_wp_marks Tryz.func92 rfl trivial ?_ rfl
  simp only [Tryz.ntmps92, List.size_toArray, List.length_cons, List.length_nil, Nat.reduceAdd, Nat.reduceSub, Array.replicate_succ, Array.replicate_zero, List.push_toArray, List.append_toArray, List.nil_append, List.cons_append]
  gi_upto_region 1 with fail
  have r0 : ((w.alloc (.cells #[.slice A os.length c] 75)).alloc (.cells (bitCells M) 83)).heap[w.heap.size]? = some (.cells #[.slice A os.length c] 75 (0, 0)) := row_alloc _ _ _ _ (row_last _ _ _ rfl)
  have r1 : ((w.alloc (.cells #[.slice A os.length c] 75)).alloc (.cells (bitCells M) 83)).heap[w.heap.size + 1]? = some (.cells (bitCells M) 83 (0, 0)) := row_last _ _ _ (by simp)
  obtain ⟨pd, hpd⟩ : ∃ pd, w.heap.size = pd := ⟨_, rfl⟩
  obtain ⟨w2, hw2⟩ : ∃ w2, (w.alloc (.cells #[.slice A os.length c] 75)).alloc (.cells (bitCells M) 83) = w2 := ⟨_, rfl⟩
  have hz2 : w2.heap.size = pd + 2 := by rw [← hw2]; simp [hpd]
  have e2 : Ext w w2 := by rw [← hw2]; exact (ext_alloc _ _).trans (ext_alloc _ _)
  rw [hw2, hpd] at r0 r1
  rw [hw2, hpd]
  have r2 : ((w2.alloc (.cells #[.int .i64 0] 3)).alloc (.cells #[.bool false] 4)).heap[pd + 2]? = some (.cells #[.int .i64 0] 3 (0, 0)) := row_alloc _ _ _ _ (row_last _ _ _ hz2.symm)
  have r3 : ((w2.alloc (.cells #[.int .i64 0] 3)).alloc (.cells #[.bool false] 4)).heap[pd + 3]? = some (.cells #[.bool false] 4 (0, 0)) := row_last _ _ _ (by simp [hz2])
  have hcall := fun W (hW : Ext w W) => ends_any (HB.out.ext hW)
  have e4 : Ext w ((w2.alloc (.cells #[.int .i64 0] 3)).alloc (.cells #[.bool false] 4)) := (e2.trans (ext_alloc _ _)).trans (ext_alloc _ _)
  have z4 : ((w2.alloc (.cells #[.int .i64 0] 3)).alloc (.cells #[.bool false] 4)).heap.size = pd + 4 := by simp [hz2]
  have r0' := row_alloc _ _ _ (.cells #[.bool false] 4) (row_alloc _ _ _ (.cells #[.int .i64 0] 3) r0)
  have r1' := row_alloc _ _ _ (.cells #[.bool false] 4) (row_alloc _ _ _ (.cells #[.int .i64 0] 3) r1)
  have q0 : w2.cell? ⟨pd, 0, none⟩ = some (.slice A os.length c) := cell_of_row _ _ _ _ _ _ r0
  clear hw2 r0 r1
  have HZ := Lib.hid (show w.heap.size ≤ pd from Nat.le_of_eq hpd)
  clear hpd
  refine wpIn_scope_wide ?_
  gi_wp2
  refine wpIn_label ?_
  have qq0 : ((w2.alloc (.cells #[.int .i64 0] 3)).alloc (.cells #[.bool false] 4)).cell? ⟨pd, 0, none⟩ = some (.slice A os.length c) := cell_of_row _ _ _ _ _ _ r0'
  gi_wp2_with (refine ⟨trivial, ?_⟩; gi_at_call 98; refine (callsIn_wide.2 (hcall _ e4)).mono ?_; rintro e w3 ⟨pe, pb, A2, c2, rfl, hE, e3⟩)
  have HZ4 : Hid (pd + 4 ≤ w3.heap.size) := Lib.hid (by rw [← z4]; exact e3.size)
  have R0 := Lib.hid (row_ext r0' e3)
  have R1 := Lib.hid (row_ext r1' e3)
  have R2 := Lib.hid (row_ext r2 e3)
  have R3 := Lib.hid (row_ext r3 e3)
  have HE3 := Lib.hid (e4.trans e3)
  have hst := ends_stops 11 (by omega) w3 hE hE.on
  have hon := hE.on
  clear q0 qq0 r2 r3 e4 z4 r0' r1' hcall e3 e2 hz2
  refine wpIn_rangeFunc_ownH rfl (by omega) (gf := 124) (lb := #[.pointer (some ⟨pe, 0, none⟩), .pointer (some ⟨pb, 0, none⟩)]) rfl trivial enters124
    hst keepsOn_t (keepsOn_b hon) (Below.refl _ _) (fun _ => rfl)
    (fun pre W => (∀ x, x ∈ pre → atEnd os M x = none) ∧ Below w3.heap.size w3 W)
    (fun cd pre W => (cd = .exit 0 ∧ ∃ pre0 x k, pre = pre0 ++ [x] ∧ (∀ z, z ∈ pre0 → atEnd os M z = none) ∧ atEnd os M x = some k ∧ W.heap[pd + 2]? = some (.cells #[.int .i64 (k : Int)] 3 (0, 0)) ∧ W.heap[pd + 3]? = some (.cells #[.bool true] 4 (0, 0))) ∧ Ext w W)
    (fun pre X Y row hs hg hr => ⟨hs.1, hs.2.grown hg hs.2.size (fun r e => (hr r e).1)⟩)
    (fun cd pre X Y row hs hg hr => by
      obtain ⟨⟨h1, pre0, x, k, h2, h3, h4, h5, h6⟩, h7⟩ := hs
      have hr' := fun r e => (hr r e).2
      exact ⟨⟨h1, pre0, x, k, h2, h3, h4, heap_kept h5 hg hr', heap_kept h6 hg hr'⟩, Below.grown h7 hg h7.size (fun r e => by have := (hr r e).1; have := HZ4.out; have := HZ.out; omega)⟩)
    ⟨fun x hx => absurd hx (by simp), Below.refl _ _⟩
    (fun x a' _ => a' = { tmps := #[.slice A os.length c, .agg (bitCells M), .pointer (some ⟨pd, 0, none⟩), .pointer (some ⟨pd + 1, 0, none⟩), .int .i64 0, .bool false, .pointer (some ⟨pd + 2, 0, none⟩), .pointer (some ⟨pd + 2 + 1, 0, none⟩), .int .i64 x, undef, undef, .slice A os.length c, .func (.func 124) #[] #[.pointer (some ⟨pe, 0, none⟩), .pointer (some ⟨pb, 0, none⟩)], .int .i64 x, undef, undef, undef, undef, undef, undef, undef, undef, undef, undef, undef, undef, undef, undef, undef, undef, undef, undef, undef, undef, undef, undef], defers := [] })
    (fun _ _ _ _ _ _ hs _ _ => hs)
    ?assign ?body ?done ?stop
  case assign =>
    rintro l pre x W K hI hK
    gi_wp2
    exact hK _ _ (KeepsFrom.refl _ _) (keepsOn_r _) hI rfl
  case body =>
    rintro l pre x a' W hl ⟨r, hr⟩ ⟨hpre, hBW⟩ rfl hlt2
    have hp0 : W.cell? ⟨pd, 0, none⟩ = some (.slice A os.length c) := cell_of_row _ _ _ _ _ _ (row_ext R0.out hBW)
    have HPRE := Lib.hid hpre
    have HBW := Lib.hid hBW
    have HON := Lib.hid hon
    have HL := Lib.hid hl
    clear hpre hBW hst hr hE hon hl
    gi_wp2
    gi_loopw [16] (fun i wr => ∃ j : Nat, j ≤ os.length ∧ i = .int .i64 j ∧ Hid (Ext W wr) ∧ Hid (∀ t, t < j → (!M t && bHi (oAt os t) == x) = false)) (fun i _ => os.length - (intOf i).toNat)
    case atStart => exact ⟨0, Nat.zero_le _, rfl, Lib.hid (Ext.refl _), Lib.hid fun t h => absurd h (by omega)⟩
    case round =>
      obtain ⟨j, hj, rfl, hX, hN⟩ := hrel
      clear hp0
      by_cases hlt : j < os.length
      · have hltz : (j : Int) < (os.length : Int) := by omega
        have hj14 : j < 14 := by omega
        have hj14z : (j : Int) < 14 := by omega
        have hEr : Ext w3 wr := Ext.trans HBW.out hX.out
        obtain ⟨b, off, rfl, hbl, c0, c1, c2, c3, c4, c5, c6⟩ := (HB.out.ext (HE3.out.trans hEr)).at hlt
        have hd : wr.cell? ⟨pd + 1, j, none⟩ = some (.bool (M j)) := (cell_of_row _ _ _ _ _ _ (row_ext R1.out hEr)).trans (bitCells_get _ _ hj14)
        have hdl : pd + 1 < wr.heap.size := by have h1 := HZ4.out; have h3 := hEr.size; omega
        have hd2 : pd + 2 < wr.heap.size := by have h1 := HZ4.out; have h3 := hEr.size; omega
        have hd3 : pd + 2 + 1 < wr.heap.size := by have h1 := HZ4.out; have h3 := hEr.size; omega
        have hoat : oAt os j = os[j] := oAt_get hlt
        obtain ⟨o, ho⟩ : ∃ o, os[j] = o := ⟨_, rfl⟩
        rw [ho] at c0 c1 c2 c3 c4 c5 c6 hoat
        have hst : ∀ q, (!M j && bHi o == x) = q → ∀ t, t < j + 1 → (!M t && bHi (oAt os t) == x) = (if t = j then q else false) := fun q hq t ht => by
          by_cases e : t = j
          · subst e; rw [if_pos rfl, hoat]; exact hq
          · rw [if_neg e]; exact hN.out t (by omega)
        have HO := Lib.hid hoat
        obtain ⟨m, hm⟩ : ∃ m, M j = m := ⟨_, rfl⟩
        rw [hm] at hd hst
        have HM := Lib.hid hm
        have HST := Lib.hid hst
        have HR := Lib.hid hEr
        clear hoat ho hm hst hEr
        cases m with
        | true =>
          gi_wp2
          go_roundw
          case measure => simp [intOf]; omega
          case rel => exact ⟨j + 1, by omega, by go_num, Lib.hid (Ext.trans hX.out (ext_alloc _ _)), Lib.hid fun t ht => by rw [HST.out false rfl t ht]; split <;> rfl⟩
        | false =>
          by_cases hx : bHi o = x
          · have hxe : (bHi o == x) = true := by simp [hx]
            have r2 := row_ext R2.out HR.out
            have r3 := row_ext R3.out HR.out
            have d2 : wr.cell? ⟨pd + 2, 0, none⟩ = some (.int .i64 0) := cell_of_row _ _ _ _ _ _ r2
            have d3 : wr.cell? ⟨pd + 2 + 1, 0, none⟩ = some (.bool false) := cell_of_row _ _ _ _ _ _ r3
            have f2 : wr.frozen? ⟨pd + 2, 0, none⟩ = false := by simp [World.frozen?, r2]
            have f3 : wr.frozen? ⟨pd + 2 + 1, 0, none⟩ = false := by simp [World.frozen?, r3]
            have HR2 := Lib.hid r2
            have HR3 := Lib.hid r3
            have hat : atEnd os M x = some j := by
              unfold atEnd
              rw [List.find?_eq_some_iff_getElem]
              refine ⟨by rw [HM.out, HO.out]; simp [hx], j, by simpa using hlt, by simp, fun t ht => ?_⟩
              have := hN.out t ht
              simp only [List.getElem_range]
              rw [this]
              rfl
            have HAT := Lib.hid hat
            have HX := Lib.hid hx
            clear r2 r3 hat hx
            gi_wp2
            refine ⟨((keepsOthers_below hX.out).trans ((KeepsOthers.setCell _ _ _).trans ((KeepsOthers.setCell _ _ _).trans (KeepsOthers.alloc _ _)))).from _, ⟨rfl, pre, x, j, rfl, HPRE.out, HAT.out, row_alloc _ _ _ _ ((heap_set_other _ _ _ _ _ ?_).trans (row_setCell _ _ _ _ _ _ _ HR2.out)), row_alloc _ _ _ _ (row_setCell _ _ _ _ _ _ _ ((heap_set_other _ _ _ _ _ ?_).trans HR3.out))⟩, (set_kept (set_kept (HE3.out.trans HR.out) ?_) ?_).trans (ext_alloc _ _)⟩
            · omega
            · omega
            · have := HZ.out; omega
            · have := HZ.out; omega
          · have hxe : (bHi o == x) = false := by simp [hx]
            have HXE := Lib.hid hxe
            gi_wp2
            go_roundw
            case measure => simp [intOf]; omega
            case rel => exact ⟨j + 1, by omega, by go_num, Lib.hid (Ext.trans hX.out (ext_alloc _ _)), Lib.hid fun t ht => by rw [HST.out false (by rw [HXE.out]; rfl) t ht]; split <;> rfl⟩
      · have hltz : ¬ (j : Int) < (os.length : Int) := by omega
        obtain rfl : j = os.length := by omega
        have hat : atEnd os M x = none := by
          unfold atEnd
          rw [List.find?_eq_none]
          intro t ht
          rw [hN.out t (List.mem_range.1 ht)]
          exact Bool.false_ne_true
        have HAT := Lib.hid hat
        clear hat
        gi_wp2
        refine ⟨(keepsOthers_below hX.out).from _, keepsOn_ext hX.out (fun b h => Nat.lt_of_lt_of_le (HON.out b h) HBW.out.size), fun z hz => ?_, Ext.trans HBW.out hX.out⟩
        rcases List.mem_append.1 hz with h | h
        · exact HPRE.out z h
        · rw [List.mem_singleton.1 h]; exact HAT.out
  case done =>
    rintro D zs W hD rfl ⟨hpre, hBW⟩ hK
    have HPRE := Lib.hid hpre
    have hEr : Ext w3 W := hBW
    have d2 : W.cell? ⟨pd + 2, 0, none⟩ = some (.int .i64 0) := cell_of_row _ _ _ _ _ _ (row_ext R2.out hEr)
    have d3 : W.cell? ⟨pd + 2 + 1, 0, none⟩ = some (.bool false) := cell_of_row _ _ _ _ _ _ (row_ext R3.out hEr)
    have HR := Lib.hid hEr
    have hnn : nextOf os M = none := (List.findSome?_eq_none_iff).2 hpre
    clear hpre hBW hst hE hon hEr
    gi_wp2
    refine wpIn_wide.2 ?_
    go_quiet (fail)
    gi_wp2
    rw [Exit.noGoto_ret]
    refine leavesM_marks [D] (W.drewN nq) (by simp) (fun E hE => ?_) (fun W' hs => ?_)
    · rw [List.mem_singleton.1 hE]; exact hK
    · refine ⟨.tuple #[.int .i64 0, .bool false], results_tmp2 (fn := Tryz.f92) rfl _ _ _, by rw [hnn]; rfl, Below.trans (ext_drewN (HE3.out.trans HR.out) nq : Ext w (W.drewN nq)) (hs.below fun E hE => ?_)⟩
      rw [List.mem_singleton.1 hE]
      have := HR.out.size
      have := HE3.out.size
      omega
  case stop =>
    rintro D cd pre W hD hsp ⟨⟨rfl, pre0, x, k, rfl, h3, h4, h5, h6⟩, h7⟩ hK
    have hns : nextOf os M = some k := next_pre hsp h3 h4
    have d2 : W.cell? ⟨pd + 2, 0, none⟩ = some (.int .i64 (k : Int)) := cell_of_row _ _ _ _ _ _ h5
    have d3 : W.cell? ⟨pd + 2 + 1, 0, none⟩ = some (.bool true) := cell_of_row _ _ _ _ _ _ h6
    have HNS := Lib.hid hns
    have HR := Lib.hid h7
    clear hst hE hon h3 h4 h5 h6 h7 hns hsp
    gi_wp2
    refine wpIn_wide.2 ?_
    go_quiet (fail)
    gi_wp2
    rw [Exit.noGoto_ret]
    refine leavesM_marks [D] (W.drewN nq) (by simp) (fun E hE => ?_) (fun W' hs => ?_)
    · rw [List.mem_singleton.1 hE]; exact hK
    · refine ⟨.tuple #[.int .i64 (k : Int), .bool true], results_tmp2 (fn := Tryz.f92) rfl _ _ _, by rw [HNS.out]; rfl, Below.trans (ext_drewN HR.out nq : Ext w (W.drewN nq)) (hs.below fun E hE => ?_)⟩
      rw [List.mem_singleton.1 hE]
      have := HR.out.size
      have := HE3.out.size
      omega
end Go.Proofs.YtmlmnljbegcjcaaGreat

/- due: which orders are due. -/
namespace Go.Proofs.YtmlmnljbegcjcaaGreat
open Go.RowKit Go.Shelf
attribute [local irreducible] bitCells

theorem find_congr {p q : Nat → Bool} : ∀ {l : List Nat}, (∀ i, i ∈ l → p i = q i) → l.find? p = l.find? q
  | [], _ => rfl
  | x :: l, h => by
    rw [List.find?_cons, List.find?_cons, h x (by simp), find_congr fun i hi => h i (by simp [hi])]
theorem nextOf_congr {os : List Odr} {d d' : Nat → Bool} (h : ∀ i, i < os.length → d i = d' i) : nextOf os d = nextOf os d' := by
  unfold nextOf
  congr 1
  funext x
  exact find_congr fun i hi => by rw [h i (List.mem_range.1 hi)]
theorem dueGo_congr {os : List Odr} : ∀ (f : Nat) {d d' : Nat → Bool}, (∀ i, i < os.length → d i = d' i) → dueGo os f d = dueGo os f d'
  | 0, _, _, _ => rfl
  | f + 1, d, d', h => by
    unfold dueGo
    rw [nextOf_congr h]
    cases nextOf os d' with
    | none => rfl
    | some k => simp only; rw [dueGo_congr f fun i hi => by rw [h i hi]]
theorem dueGo_len {os : List Odr} : ∀ (f : Nat) (d : Nat → Bool), (dueGo os f d).length ≤ f
  | 0, _ => by simp [dueGo]
  | f + 1, d => by
    unfold dueGo
    cases nextOf os d with
    | none => simp
    | some k => simp; exact dueGo_len f _
theorem undone_len (os : List Odr) (d : Nat → Bool) : (undone os d).length ≤ os.length := by
  unfold undone
  rw [List.length_map]
  exact Nat.le_trans (List.length_filter_le _ _) (by simp)
/-- The orders that are due, as ints. -/
def dueI (os : List Odr) (M : Nat → Bool) : List Int := (dueGo os os.length M).map fun k : Nat => (k : Int)
theorem dueI_len (os : List Odr) (M : Nat → Bool) : (dueI os M).length ≤ os.length := by
  unfold dueI
  rw [List.length_map]
  exact dueGo_len _ _
def nxK (o : Option Nat) : Int := match o with
  | some k => (k : Int)
  | none => 0
theorem nextAns_is (o : Option Nat) : nextAns o = .tuple #[.int .i64 (nxK o), .bool o.isSome] := by cases o <;> rfl
/-- The marks of one bath. -/
theorem does_one {A : Option Addr} {c : Nat} {os : List Odr} {w : World} (hb : IsBook w A c os) (x : Int) :
    Calls Tryz.prog 57 #[.slice A os.length c, .slice (some ⟨w.heap.size, 0, none⟩) 1 1] (w.alloc (.cells #[.int .i64 x] 2)) fun e w' => e = .returned (.agg (bitCells (doesB os [x]))) ∧ Ext (w.alloc (.cells #[.int .i64 x] 2)) w' :=
  does_any (hb.ext (ext_alloc w _)) (some ⟨w.heap.size, 0, none⟩) 1 1 [x] rfl (by decide) (.inr ⟨_, 0, rfl, by simp, fun j y hj i v hv => by
    match j, hj with
    | 0, hj =>
      match i, hv with
      | 0, hv =>
        injection hj with hj
        subst hj
        exact (cell_of_row _ _ _ _ _ _ (row_last _ _ _ rfl)).trans hv
      | i + 1, hv => simp [encI] at hv⟩)
/-- One step of what is due. -/
theorem due_step {os : List Odr} {M : Nat → Bool} (hB : ∀ i, i < os.length → M i = false → hasB (oAt os i) = true) {f k : Nat} (hf : (undone os M).length ≤ f) (hn : nextOf os M = some k) :
    ∃ f', f = f' + 1 ∧ dueGo os f M = k :: dueGo os f' (fun i => M i || doesB os [bHi (oAt os k)] i) ∧ (undone os (fun i => M i || doesB os [bHi (oAt os k)] i)).length ≤ f' ∧ (∀ i, i < os.length → (M i || doesB os [bHi (oAt os k)] i) = false → hasB (oAt os i) = true) ∧ k < os.length := by
  obtain ⟨hk, hMk, hm⟩ := next_some hB hn
  have hW : Whole (undone os M) := fun o ho => by
    obtain ⟨i, hi, hd, rfl⟩ := mem_undone.1 ho
    exact hB i hi hd
  have hlt := rest_lt hW hm
  have hc : ∀ i, i < os.length → (M i || doneB (bHi (oAt os k)) (oAt os i)) = (M i || doesB os [bHi (oAt os k)] i) := fun i hi => by
    simp [doesB, hi, madeB]
  have hu : undone os (fun i => M i || doesB os [bHi (oAt os k)] i) = (undone os M).filter fun o => !doneB (bHi (oAt os k)) o := by
    rw [← undone_or]
    unfold undone
    congr 1
    exact List.filter_congr fun i hi => by have := hc i (List.mem_range.1 hi); simp only [this]
  refine ⟨f - 1, by omega, ?_, by rw [hu]; omega, fun i hi h => hB i hi (by cases e : M i <;> simp [e] at h ⊢), hk⟩
  obtain ⟨g, rfl⟩ : ∃ g, f = g + 1 := ⟨f - 1, by omega⟩
  conv => lhs; unfold dueGo
  rw [hn]
  simp only [Nat.add_sub_cancel]
  rw [dueGo_congr g hc]
def lenOf : Value → Nat
  | .slice _ n _ => n
  | _ => 0
theorem owns_base {w : World} {base base' : Nat} {e : TypeId} {size n : Nat} {v : Value} {xs : List Value} (h : w.ownsRow base e size v n xs) (hb : base' ≤ base) : w.ownsRow base' e size v n xs := by
  refine ⟨h.1, h.2.imp id ?_⟩
  rintro ⟨g, cap, cur, hv, hg, r⟩
  exact ⟨g, cap, cur, hv, Nat.le_trans hb hg, r⟩
/-- Marks, the first j of which have been turned on where D has some. -/
def orTo (M D : Nat → Bool) (j : Nat) (i : Nat) : Bool := M i || (decide (i < j) && D i)
theorem orTo_zero (M D : Nat → Bool) : orTo M D 0 = M := by funext i; simp [orTo]
theorem orTo_end (M D : Nat → Bool) : bitCells (orTo M D 14) = bitCells (fun i => M i || D i) := by
  apply Array.ext_getElem?
  intro i
  by_cases hi : i < 14
  · rw [bitCells_get _ i hi, bitCells_get _ i hi]
    simp [orTo, hi]
  · rw [Array.getElem?_eq_none (by rw [bitCells_size]; omega), Array.getElem?_eq_none (by rw [bitCells_size]; omega)]
theorem orTo_set (M D : Nat → Bool) {j : Nat} : (bitCells (orTo M D j)).setIfInBounds j (.bool (orTo M D j j || D j)) = bitCells (orTo M D (j + 1)) := by
  apply Array.ext_getElem?
  intro i
  by_cases hi : i < 14
  · rw [bitCells_get _ i hi, Array.getElem?_setIfInBounds]
    by_cases e : j = i
    · subst e
      rw [if_pos rfl, if_pos (by rw [bitCells_size]; exact hi)]
      simp [orTo]
    · rw [if_neg e, bitCells_get _ i hi]
      have : decide (i < j) = decide (i < j + 1) := by
        rw [decide_eq_decide]
        omega
      simp [orTo, this]
  · rw [Array.getElem?_eq_none (by simp [bitCells_size]; omega), Array.getElem?_eq_none (by rw [bitCells_size]; omega)]

set_option maxRecDepth 100000 in
set_option maxHeartbeats 4000000 in
theorem due_any {A : Option Addr} {c : Nat} {os : List Odr} {w : World} (hb : IsBook w A c os) (M : Nat → Bool) (hB : ∀ i, i < os.length → M i = false → hasB (oAt os i) = true) :
    Calls Tryz.prog 65 #[.slice A os.length c, .agg (bitCells M)] w fun e w' => Ext w w' ∧ ∃ A' c', e = .returned (.slice A' (dueI os M).length c') ∧ Made w.heap.size 3 (dueI os M) w' A' c' := by
  have HB := Lib.hid hb
  have h14 := hb.few.2
  have hn0 := nextAns_is (nextOf os M)
  have h92 := fun W (hW : Ext w W) M' => next_any (hb.ext hW) M'
  simp only [nextAns_is] at h92
  have H92 := Lib.hid h92
  have hl0 := undone_len os M
  have hdl := dueI_len os M
  obtain ⟨ANS, hANS⟩ : ∃ ANS, dueI os M = ANS := ⟨_, rfl⟩
  rw [hANS] at hdl ⊢
  have HA := Lib.hid (show (dueGo os os.length M).map (fun k : Nat => (k : Int)) = ANS from hANS)
  have HBB := Lib.hid hB
  clear hb hn0 h92 hANS hB
  go_enter Tryz.func65, Tryz.ntmps65
  go_upto_region 2 with fail
  obtain ⟨w1, hw1⟩ : ∃ w1, w.alloc (.cells (bitCells M) 83) = w1 := ⟨_, rfl⟩
  obtain ⟨p3, hp3⟩ : ∃ p3, w.heap.size = p3 := ⟨_, rfl⟩
  have e1 : Ext w w1 := by rw [← hw1]; exact ext_alloc _ _
  have r3 : w1.heap[p3]? = some (.cells (bitCells M) 83 (0, 0)) := by rw [← hw1]; exact row_last _ _ _ hp3.symm
  have hz1 : w.heap.size < w1.heap.size := by rw [← hw1]; simp
  rw [hw1, hp3]
  clear hw1
  go_upto_region 3 with (first | refine wpList_load83 (.tmp 3) rfl rfl p3 rfl (bitCells M) (bitCells_size _) r3 ?_ | refine wpList_alloc83 rfl rfl ?_ | refine wpList_store83 (.tmp 6) (.tmp 11) rfl rfl w1.heap.size rfl (bitCells M) (bitCells noBits) (bitCells_size _) (bitCells_size _) (bitCells_one _) rfl (row_last _ _ _ rfl) ?_)
  obtain ⟨w2, hw2⟩ : ∃ w2, (w1.alloc (.cells (bitCells noBits) 83)).setRow w1.heap.size (bitCells M) = w2 := ⟨_, rfl⟩
  have e2 : Ext w w2 := by rw [← hw2]; exact below_setRow (e1.trans (ext_alloc _ _)) (by omega) _
  have r6 : w2.heap[w1.heap.size]? = some (.cells (bitCells M) 83 (0, 0)) := by rw [← hw2]; exact row_setRow _ _ _ _ _ _ (row_last _ _ _ rfl)
  have hz2 : w1.heap.size < w2.heap.size := (Array.getElem?_eq_some_iff.1 r6).1
  obtain ⟨p6, hp6⟩ : ∃ p6, w1.heap.size = p6 := ⟨_, rfl⟩
  rw [hp6] at r6 hz2 hz1
  rw [hw2, hp6]
  have HP := Lib.hid (show w.heap.size < p6 from hz1)
  have HE2 := Lib.hid e2
  have HR6 := Lib.hid r6
  have h92 := H92.out w2 e2 M
  clear hw2 hp6 hp3 hz1 hz2 e1 e2 r3 r6
  go_wp2_with (first | refine wpList_load83 (.tmp 6) rfl rfl p6 rfl (bitCells M) (bitCells_size _) HR6.out ?_ | (refine h92.mono ?_; rintro e w3 ⟨rfl, e3⟩; have HE3 := Lib.hid (HE2.out.trans (show Ext w2 w3 from e3)); have HR := Lib.hid (row_ext HR6.out (show Ext w2 w3 from e3)); clear e3 h92 HR6 HE2))
  go_loopw [5, 7, 8] (fun v5 v7 v8 wr => ∃ (l : List Int) (M' : Nat → Bool) (f : Nat), l.length ≤ os.length ∧ v7 = .int .i64 (nxK (nextOf os M')) ∧ v8 = .bool (nextOf os M').isSome ∧ Hid ((undone os M').length ≤ f ∧ (∀ i, i < os.length → M' i = false → hasB (oAt os i) = true) ∧ l ++ (dueGo os f M').map (fun k : Nat => (k : Int)) = ANS) ∧ Hid (Ext w wr) ∧ Hid (wr.heap[p6]? = some (.cells (bitCells M') 83 (0, 0))) ∧ Hid (∃ A5 c5, v5 = .slice A5 l.length c5 ∧ Made (p6 + 1) 3 l wr A5 c5)) (fun v5 _ _ _ => os.length + 1 - lenOf v5)
  case atStart => exact ⟨[], M, os.length, by simp, rfl, rfl, Lib.hid ⟨hl0, HBB.out, HA.out⟩, HE3, HR, Lib.hid ⟨none, 0, rfl, World.ownsRow_nil _ _ _ _⟩⟩
  case round =>
    obtain ⟨l, M', f, hll, rfl, rfl, hF, hE, hR, hO⟩ := hrel
    clear HE3 HR
    obtain ⟨A5, c5, rfl, hM5⟩ := hO.out
    cases hnx : nextOf os M' with
    | none =>
      have hl : l = ANS := by
        have h3 := hF.out.2.2
        have : dueGo os f M' = [] := by
          cases f with
          | zero => rfl
          | succ f => unfold dueGo; rw [hnx]
        rw [this] at h3
        simpa using h3
      have HM5 := Lib.hid hM5
      subst hl
      clear hM5 hO hF hnx
      go_wp2
      go_ret
      exact ⟨hE.out, A5, c5, rfl, owns_base HM5.out (by have := HP.out; omega)⟩
    | some k =>
      obtain ⟨f', rfl, hgo, hun, hB', hkl⟩ := due_step hF.out.2.1 hF.out.1 hnx
      have hans := hF.out.2.2
      rw [hgo] at hans
      have hkz : (k : Int) < (os.length : Int) := by omega
      have hoat : oAt os k = os[k] := oAt_get hkl
      obtain ⟨b, off, rfl, hbl, _, _, _, _, _, _, c6⟩ := HB.out.at hkl
      obtain ⟨o, ho⟩ : ∃ o, os[k] = o := ⟨_, rfl⟩
      rw [ho] at c6 hoat
      have HC6 := Lib.hid (fun W (hW : Ext w W) => (Below.cell hW (p := ⟨b, off + k * 7 + 6, none⟩) hbl).trans c6)
      clear c6 hbl
      rw [hoat] at hans hun hB'
      have HN := Lib.hid (And.intro hun (And.intro hB' hans))
      have HOA := Lib.hid (hM5.alloc (.cells #[.int .i64 (k : Int)] 3))
      have hsz : p6 < wr.heap.size := (Array.getElem?_eq_some_iff.1 hR.out).1
      have hll' : l.length < os.length := by
        have := congrArg List.length hans
        simp at this
        omega
      clear ho hoat hans hun hB' hgo hnx hM5 hO hF
      have hd1 := fun W (hW : Ext w W) => does_one (HB.out.ext hW) (bHi o)
      obtain ⟨D, hD⟩ : ∃ D, doesB os [bHi o] = D := ⟨_, rfl⟩
      rw [hD] at HN
      simp only [hD] at hd1
      have HD1 := Lib.hid hd1
      obtain ⟨z, hz⟩ : ∃ z, bHi o = z := ⟨_, rfl⟩
      rw [hz] at HC6 HD1
      have hwp : w.heap.size ≤ p6 + 1 := by have := HP.out; omega
      clear hD hd1 hz
      rw [show nxK (some k) = (k : Int) from rfl]
      go_wp2_with (first | (at_builtin; refine wpList_app1 rfl 25 27 30 3 rfl Tryz.underlying30 _ 1 8 info3 rfl (by decide) (by decide) (p6 + 1) l.length _ _ rfl HOA.out wr.heap.size [.int .i64 (k : Int)] rfl rfl (row_last _ _ _ rfl) (encI_one _) (by omega) (by simp; omega) ?_; intro A9 c9 w3 hown hB3 _; have HW := Lib.hid hown; have he3 : Ext w w3 := Below.trans (hE.out.trans (ext_alloc _ _)) (hB3.mono hwp); have HE3 := Lib.hid he3; have HR3 := Lib.hid ((hB3.block p6 (by omega)).trans (row_alloc _ _ _ _ hR.out)); have hc6 := HC6.out w3 he3; have h57 := HD1.out w3 he3; have hz3 := Nat.le_trans (by simp; omega : p6 + 1 ≤ (wr.alloc (.cells #[.int .i64 (k : Int)] 3)).heap.size) hB3.size; clear hown hB3 he3) | (refine h57.mono ?_; rintro e w4 ⟨rfl, e4⟩; have HE4 := Lib.hid (HE3.out.trans ((ext_alloc _ _).trans e4)); have HW4 := Lib.hid (owns_ext (HW.out.alloc _) e4); have HR4 := Lib.hid (row_ext (row_alloc _ _ _ _ HR3.out) e4); clear e4 h57 HW HE3 HR3 hc6))
      go_loopw [38] (fun i wq => ∃ j : Nat, j ≤ 14 ∧ i = .int .i64 j ∧ Hid (Ext w wq) ∧ Hid (wq.heap[p6]? = some (.cells (bitCells (orTo M' D j)) 83 (0, 0))) ∧ Hid (wq.ownsRow (p6 + 1) 3 1 (.slice A9 (l.length + 1) c9) (l.length + 1) (l.map (Value.int .i64) ++ [.int .i64 (k : Int)]))) (fun i _ => 14 - (intOf i).toNat)
      case atStart => exact ⟨0, by omega, rfl, HE4, Lib.hid (by rw [orTo_zero]; exact HR4.out), HW4⟩
      case round =>
        obtain ⟨j, hj, rfl, hEq, hRq, hOq⟩ := hrel
        clear HE4 HW4 HR4
        by_cases hlt : j < 14
        · have hltz : (j : Int) < 14 := by omega
          have hix := run_index83 D j hlt
          have cl : wr.cell? ⟨p6, j, none⟩ = some (.bool (orTo M' D j j)) := (cell_of_row _ _ _ _ _ _ hRq.out).trans (bitCells_get _ _ hlt)
          have fz : wr.frozen? ⟨p6, j, none⟩ = false := by simp [World.frozen?, hRq.out]
          have hset := orTo_set M' D (j := j)
          obtain ⟨q, hq⟩ : ∃ q, orTo M' D j j = q := ⟨_, rfl⟩
          obtain ⟨d, hd⟩ : ∃ d, D j = d := ⟨_, rfl⟩
          rw [hq, hd] at hset
          rw [hq] at cl
          rw [hd] at hix
          have HS := Lib.hid hset
          clear hq hd hset
          cases q with
          | true =>
            go_wp2
            go_roundw
            case measure => simp [intOf]; omega
            case rel => exact ⟨j + 1, by omega, by go_num, Lib.hid (set_kept hEq.out (Nat.le_of_lt HP.out)), Lib.hid (by rw [← HS.out]; exact row_setCell _ _ _ _ _ _ _ hRq.out), Lib.hid (own_stay hOq.out (fun g hg => heap_set_other _ _ _ _ _ (by have := (hOq.out.lt g hg).1; omega)))⟩
          | false =>
            go_wp2
            go_roundw
            case measure => simp [intOf]; omega
            case rel => exact ⟨j + 1, by omega, by go_num, Lib.hid (set_kept hEq.out (Nat.le_of_lt HP.out)), Lib.hid (by rw [← HS.out]; exact row_setCell _ _ _ _ _ _ _ hRq.out), Lib.hid (own_stay hOq.out (fun g hg => heap_set_other _ _ _ _ _ (by have := (hOq.out.lt g hg).1; omega)))⟩
        · have hltz : ¬ (j : Int) < 14 := by omega
          obtain rfl : j = 14 := by omega
          have hr14 := hRq.out
          rw [orTo_end] at hr14
          have HRE := Lib.hid hr14
          have h92 := H92.out wr hEq.out (fun i => M' i || D i)
          clear hr14
          go_wp2_with (first | refine wpList_load83 (.tmp 6) rfl rfl p6 rfl (bitCells fun i => M' i || D i) (bitCells_size _) HRE.out ?_ | (refine h92.mono ?_; rintro e w5 ⟨rfl, e5⟩; have HE5 := Lib.hid (Ext.trans hEq.out e5); have HR5 := Lib.hid (row_ext HRE.out e5); have HO5 := Lib.hid (owns_ext hOq.out e5); clear e5 h92))
          go_roundw
          case measure => simp [lenOf]; omega
          case rel =>
            refine ⟨l ++ [(k : Int)], fun i => M' i || D i, f', by simp; omega, rfl, rfl, Lib.hid ⟨HN.out.1, HN.out.2.1, ?_⟩, HE5, HR5, Lib.hid ⟨A9, c9, by simp, ?_⟩⟩
            · rw [List.append_assoc]
              exact HN.out.2.2
            · unfold Made
              rw [List.length_append, List.map_append]
              exact HO5.out
end Go.Proofs.YtmlmnljbegcjcaaGreat

/- Best, Apart: the fewest baths, and orders that prove it. -/
namespace Go.Proofs.YtmlmnljbegcjcaaGreat
open Go.RowKit Go.Shelf
attribute [local irreducible] bitCells

/-- The orders that are due of orders that all have births. -/
def dues (os : List Odr) : List Nat := dueGo os os.length noBits
theorem dues_few {os : List Odr} (hW : Whole os) : (dues os).map (fun k => bHi (oAt os k)) = fewB os := by
  unfold dues fewB
  rw [due_stab os.length noBits fun i hi _ => hW _ (oAt_mem hi), show undone os noBits = os from undone_none os]
theorem dues_mem {os : List Odr} (hW : Whole os) {k : Nat} (hk : k ∈ dues os) : k < os.length := (due_mem os.length noBits (fun _i hi _ => hW _ (oAt_mem hi)) k hk).1
theorem dueI_dues (os : List Odr) : dueI os noBits = (dues os).map fun k : Nat => (k : Int) := rfl
/-- What Best answers. -/
def bestB (os : List Odr) : List Int := if wholeErr os = 0 then fewB os else []

set_option maxRecDepth 100000 in
set_option maxHeartbeats 4000000 in
theorem best_any {A : Option Addr} {n c : Nat} {os : List Odr} {w : World} (h : IsOrders w A n c os) :
    Calls Tryz.prog 23 #[.slice A n c] w (IntsPost 2 (bestB os) (wholeErr os) w) := by
  have h64 := openedWhole_any h
  have hwh := fun h0 => (whole_ok (os := os) h0).2
  obtain ⟨E, hE⟩ : ∃ E, wholeErr os = E := ⟨_, rfl⟩
  have hd : bestB os = if E = 0 then fewB os else [] := by rw [← hE]; rfl
  obtain ⟨ds, hds⟩ : ∃ ds, bestB os = ds := ⟨_, rfl⟩
  rw [hds] at hd ⊢
  rw [hE] at h64 hwh ⊢
  have HD := Lib.hid hd
  have HWH := Lib.hid hwh
  clear hd hds hE h hwh
  go_enter Tryz.func23, Tryz.ntmps23
  go_wp2_with fail
  refine h64.mono ?_
  rintro e w1 ⟨e1, ⟨hn, rfl⟩ | ⟨rfl, A1, c1, rfl, hbk⟩⟩
  · have HE := Lib.hid e1
    have hd := HD.out
    rw [if_neg hn] at hd
    subst hd
    clear e1 h64
    go_wp2
    go_ret2
    exact ints_none 2 _ HE.out
  · have HE := Lib.hid e1
    have hd := HD.out
    rw [if_pos rfl] at hd
    have hW := HWH.out rfl
    rw [← dues_few hW] at hd
    replace HD := Lib.hid hd
    have HB := Lib.hid hbk
    have HW := Lib.hid hW
    have h65 := due_any hbk noBits (fun i hi _ => hW _ (oAt_mem hi))
    have h14 := hbk.few.2
    have hll := dueI_len os noBits
    have hlk : (dueI os noBits).length = (dues os).length := by rw [dueI_dues, List.length_map]
    have hget : ∀ (j : Nat) (hj : j < (dueI os noBits).length), ∃ k, (dues os)[j]? = some k ∧ (dueI os noBits)[j]? = some (k : Int) ∧ k < os.length := fun j hj => by
      have hj' : j < (dues os).length := by omega
      refine ⟨(dues os)[j], List.getElem?_eq_getElem hj', ?_, dues_mem hW (List.getElem_mem hj')⟩
      simp [dueI_dues, List.getElem?_eq_getElem hj']
    obtain ⟨l, hl⟩ : ∃ l, dueI os noBits = l := ⟨_, rfl⟩
    obtain ⟨ks, hks⟩ : ∃ ks, dues os = ks := ⟨_, rfl⟩
    rw [hl] at h65 hll hlk
    simp only [hl, hks] at hget
    rw [hks] at hlk HD
    rw [← litNo83] at h65
    have HG := Lib.hid hget
    have HLK := Lib.hid hlk
    clear e1 h64 hd hbk hW hl hks hlk hget
    go_wp2_with (refine h65.mono ?_; rintro e w2 ⟨e2, A5, c5, rfl, hM⟩; have HE2 := Lib.hid (HE.out.trans e2); have HH := Lib.hid hM.held.1; have HB2 := Lib.hid (HB.out.ext e2); clear e2 hM h65)
    go_loopw [6, 21] (fun v i wr => ∃ j : Nat, j ≤ l.length ∧ i = .int .i64 j ∧ Hid (Ext w2 wr) ∧ Hid (∃ A c, v = .slice A j c ∧ wr.ownsRow w2.heap.size 2 1 v j (((ks.take j).map fun k => bHi (oAt os k)).map (Value.int .i64)))) (fun _ i _ => l.length - (intOf i).toNat)
    case atStart => exact ⟨0, Nat.zero_le _, rfl, Lib.hid (Ext.refl _), Lib.hid ⟨none, 0, rfl, World.ownsRow_nil _ _ _ _⟩⟩
    case round =>
      obtain ⟨j, hj, rfl, hX, hO⟩ := hrel
      obtain ⟨A6, c6, rfl, hO6⟩ := hO.out
      by_cases hlt : j < l.length
      · have hltz : (j : Int) < (l.length : Int) := by omega
        obtain ⟨b5, o5, rfl, hc⟩ := int_get (HH.out.ext hX.out) hlt
        obtain ⟨k, hk1, hk2, hk3⟩ := HG.out j hlt
        rw [List.getElem?_eq_getElem hlt] at hk2
        rw [Option.some.inj hk2] at hc
        have hk3z : (k : Int) < (os.length : Int) := by omega
        obtain ⟨b, off, rfl, hbl, c0, c1, c2, c3, c4, c5', c6'⟩ := (HB2.out.ext hX.out).at hk3
        have hoat := oAt_get hk3
        have htk : ks.take (j + 1) = ks.take j ++ [k] := by rw [List.take_add_one, hk1]; rfl
        obtain ⟨o, ho⟩ : ∃ o, os[k] = o := ⟨_, rfl⟩
        rw [ho] at c0 c1 c2 c3 c4 c5' c6' hoat
        have HOA := Lib.hid (hO6.alloc (.cells #[.int .i64 (bHi o)] 2))
        have HT := Lib.hid (And.intro htk hoat)
        have hwz : w2.heap.size ≤ wr.heap.size := hX.out.size
        clear ho hoat htk hk1 hk2 hO hO6
        go_wp2_with (at_builtin; refine wpList_app1 rfl 25 32 36 2 rfl Tryz.underlying36 _ 1 8 info2 rfl (by decide) (by decide) w2.heap.size j _ _ rfl HOA.out wr.heap.size [.int .i64 (bHi o)] rfl rfl (row_last _ _ _ rfl) (encI_one _) (by omega) (by simp; omega) ?_; intro A9 c9 w3 hown hB3 _; have HO3 := Lib.hid hown; have HX3 := Lib.hid (Below.trans (hX.out.trans (ext_alloc _ _)) hB3 : Ext w2 w3); clear hown hB3)
        go_roundw
        case measure => simp [intOf]; omega
        case rel =>
          refine ⟨j + 1, by omega, by go_num, HX3, Lib.hid ⟨A9, c9, rfl, ?_⟩⟩
          rw [HT.out.1, List.map_append, List.map_append]
          simp only [List.map_cons, List.map_nil, HT.out.2]
          exact HO3.out
      · have hltz : ¬ (j : Int) < (l.length : Int) := by omega
        obtain rfl : l.length = j := by omega
        have hO7 := hO6
        rw [List.take_of_length_le (Nat.le_of_eq HLK.out.symm), ← HD.out] at hO7
        have hdl : ds.length = l.length := by rw [HD.out, List.length_map]; exact HLK.out.symm
        have HDL := Lib.hid hdl
        have HO := Lib.hid hO7
        clear hO hO6 hO7 hdl
        go_wp2
        go_ret2
        refine ⟨HE2.out.trans hX.out, A6, c6, by rw [HDL.out]; rfl, ?_⟩
        have hm : Made w2.heap.size 2 ds wr A6 c6 := by unfold Made; rw [HDL.out]; exact HO.out
        exact ⟨hm.held.1, hm.held.2, owns_mono hm HE2.out.size⟩

/-- The orders that Apart answers. -/
def apartB (os : List Odr) : List Int := if wholeErr os = 0 then ordI (dueI os noBits) else []
set_option maxRecDepth 100000 in
set_option maxHeartbeats 4000000 in
theorem apart_any {A : Option Addr} {n c : Nat} {os : List Odr} {w : World} (h : IsOrders w A n c os) :
    Calls Tryz.prog 32 #[.slice A n c] w (IntsPost 3 (apartB os) (wholeErr os) w) := by
  have h64 := openedWhole_any h
  have hwh := fun h0 => (whole_ok (os := os) h0).2
  obtain ⟨E, hE⟩ : ∃ E, wholeErr os = E := ⟨_, rfl⟩
  have hd : apartB os = if E = 0 then ordI (dueI os noBits) else [] := by rw [← hE]; rfl
  obtain ⟨ds, hds⟩ : ∃ ds, apartB os = ds := ⟨_, rfl⟩
  rw [hds] at hd ⊢
  rw [hE] at h64 hwh ⊢
  have HD := Lib.hid hd
  have HWH := Lib.hid hwh
  clear hd hds hE h hwh
  go_enter Tryz.func32, Tryz.ntmps32
  go_wp2_with fail
  refine h64.mono ?_
  rintro e w1 ⟨e1, ⟨hn, rfl⟩ | ⟨rfl, A1, c1, rfl, hbk⟩⟩
  · have HE := Lib.hid e1
    have hd := HD.out
    rw [if_neg hn] at hd
    subst hd
    clear e1 h64
    go_wp2
    go_ret2
    exact ints_none 3 _ HE.out
  · have HE := Lib.hid e1
    have hd := HD.out
    rw [if_pos rfl] at hd
    have hW := HWH.out rfl
    replace HD := Lib.hid hd
    have h65 := due_any hbk noBits (fun i hi _ => hW _ (oAt_mem hi))
    have h14 := hbk.few.2
    have hll := dueI_len os noBits
    obtain ⟨l, hl⟩ : ∃ l, dueI os noBits = l := ⟨_, rfl⟩
    rw [hl] at h65 hll HD
    rw [← litNo83] at h65
    clear e1 h64 hd hbk hW hl
    go_wp2_with (refine h65.mono ?_; rintro e w2 ⟨e2, A5, c5, rfl, hM⟩; have HE2 := Lib.hid (HE.out.trans e2); have HM := Lib.hid (owns_mono hM HE.out.size : w2.ownsRow w.heap.size 3 1 (.slice A5 l.length c5) l.length (l.map (Value.int .i64))); clear e2 hM h65)
    have hO := HM.out
    have hso : Calls Tryz.prog 73 #[.slice A5 l.length c5] w2 fun e' w' => e' = .returned (.tuple #[]) ∧ w'.ownsRow w.heap.size 3 1 (.slice A5 l.length c5) l.length ((ordI l).map (Value.int .i64)) ∧ Below w.heap.size w2 w' := by
      rcases hO.2 with ⟨h0, h1⟩ | ⟨g, cap, cur, hv, _⟩
      · cases l with
        | nil =>
          refine (sort_none sortI rfl A5 c5 w2).mono ?_
          rintro e' w' ⟨rfl, rfl⟩
          exact ⟨rfl, by rw [show ordI ([] : List Int) = [] from by simp [ordI]]; exact hO, Below.refl _ _⟩
        | cons x l => simp at h1
      · injection hv with hv1 _ hv3
        subst hv1; subst hv3
        exact sort_own sortI rfl (by omega) hO
    have hol := ordI_len l
    clear hO
    go_wp2_with (refine hso.mono ?_; rintro e w3 ⟨rfl, hO3, hB3⟩; have HE3 := Lib.hid (Below.trans HE2.out hB3 : Ext w w3); have HO3 := Lib.hid hO3; clear hO3 hB3 hso HE2 HM)
    go_ret2
    refine ⟨HE3.out, A5, c5, by rw [HD.out, hol]; rfl, ?_⟩
    have hm : Made w.heap.size 3 ds w3 A5 c5 := by unfold Made; rw [HD.out, hol]; exact HO3.out
    exact ⟨hm.held.1, hm.held.2, hm⟩
end Go.Proofs.YtmlmnljbegcjcaaGreat

/- costs, Costs: the orders that cost a bath. -/
namespace Go.Proofs.YtmlmnljbegcjcaaGreat
open Go.RowKit Go.Shelf
attribute [local irreducible] bitCells

/-- One order alone is marked. -/
def oneBit (k i : Nat) : Bool := decide (i = k)
/-- Whether an order costs a bath. -/
def costB (os : List Odr) (k : Nat) : Bool := decide ((dueI os (oneBit k)).length < (dueI os noBits).length)
def costsI (os : List Odr) : List Int := numsTo (costB os) os.length
theorem oneBit_set {k : Nat} : (bitCells noBits).setIfInBounds k (.bool true) = bitCells (oneBit k) := by
  apply Array.ext_getElem?
  intro i
  by_cases hi : i < 14
  · rw [bitCells_get _ i hi, Array.getElem?_setIfInBounds]
    by_cases e : k = i
    · subst e
      rw [if_pos rfl, if_pos (by rw [bitCells_size]; exact hi)]
      simp [oneBit]
    · rw [if_neg e, bitCells_get _ i hi]
      simp [oneBit, noBits, show ¬ i = k from fun h => e h.symm]
  · rw [Array.getElem?_eq_none (by simp [bitCells_size]; omega), Array.getElem?_eq_none (by rw [bitCells_size]; omega)]

set_option maxRecDepth 100000 in
set_option maxHeartbeats 4000000 in
theorem costs68_any {A : Option Addr} {c : Nat} {os : List Odr} {w : World} (hb : IsBook w A c os) (hW : Whole os) :
    Calls Tryz.prog 68 #[.slice A os.length c] w fun e w' => Ext w w' ∧ ∃ A' c', e = .returned (.slice A' (costsI os).length c') ∧ Made w.heap.size 3 (costsI os) w' A' c' := by
  have h14 := hb.few.2
  have h65 := fun W (hX : Ext w W) M => due_any (hb.ext hX) M (fun i hi _ => hW _ (oAt_mem hi))
  have H65 := Lib.hid h65
  obtain ⟨N, hN⟩ : ∃ N, (dueI os noBits).length = N := ⟨_, rfl⟩
  have hNl : N ≤ 14 := by rw [← hN]; have := dueI_len os noBits; omega
  have hcb : ∀ k, costB os k = decide ((dueI os (oneBit k)).length < N) := fun k => by unfold costB; rw [hN]
  have HCB := Lib.hid hcb
  clear hb hW h65 hcb
  go_enter Tryz.func68, Tryz.ntmps68
  go_upto_region 3 with (refine wpList_alloc83 rfl rfl ?_)
  obtain ⟨w1, hw1⟩ : ∃ w1, w.alloc (.cells (bitCells noBits) 83) = w1 := ⟨_, rfl⟩
  obtain ⟨p4, hp4⟩ : ∃ p4, w.heap.size = p4 := ⟨_, rfl⟩
  have e1 : Ext w w1 := by rw [← hw1]; exact ext_alloc _ _
  have r4 : w1.heap[p4]? = some (.cells (bitCells noBits) 83 (0, 0)) := by rw [← hw1]; exact row_last _ _ _ hp4.symm
  rw [hw1, hp4]
  have HP := Lib.hid (show w.heap.size ≤ p4 from Nat.le_of_eq hp4)
  have HE1 := Lib.hid e1
  have HR1 := Lib.hid r4
  have h65 := H65.out w1 e1 noBits
  simp only [hN] at h65
  simp only [Act.put, List.setIfInBounds_toArray, List.set_cons_succ, List.set_cons_zero]
  clear hw1 hp4 e1 r4
  go_wp2_with (first | refine wpList_load83 (.tmp 4) rfl rfl p4 rfl (bitCells noBits) (bitCells_size _) HR1.out ?_ | (refine h65.mono ?_; rintro e w2 ⟨e2, A5, c5, rfl, _⟩; have HE2 := Lib.hid (HE1.out.trans e2); have HR2 := Lib.hid (row_ext HR1.out e2); clear e2 h65 HE1 HR1))
  go_loopw [3, 13] (fun v i wr => ∃ k : Nat, k ≤ os.length ∧ i = .int .i64 k ∧ Hid (Ext w wr) ∧ Hid (∃ M, wr.heap[p4]? = some (.cells (bitCells M) 83 (0, 0))) ∧ Hid (∃ A c, v = .slice A (numsTo (costB os) k).length c ∧ Made (p4 + 1) 3 (numsTo (costB os) k) wr A c)) (fun _ i _ => os.length - (intOf i).toNat)
  case atStart => exact ⟨0, Nat.zero_le _, rfl, HE2, Lib.hid ⟨_, HR2.out⟩, Lib.hid ⟨none, 0, rfl, World.ownsRow_nil _ _ _ _⟩⟩
  case round =>
    obtain ⟨k, hk, rfl, hX, hR, hO⟩ := hrel
    clear HE2 HR2
    obtain ⟨A6, c6, rfl, hM6⟩ := hO.out
    obtain ⟨M, hRM⟩ := hR.out
    by_cases hlt : k < os.length
    · have hltz : (k : Int) < (os.length : Int) := by omega
      have hk14 : k < 14 := by omega
      have hk14z : (k : Int) < 14 := by omega
      have hs := numsTo_succ (costB os) k
      have hll := numsTo_len (costB os) k
      have HRM := Lib.hid hRM
      have HM6 := Lib.hid hM6
      obtain ⟨l, hl⟩ : ∃ l, numsTo (costB os) k = l := ⟨_, rfl⟩
      rw [hl] at hs hll HM6
      rw [hl]
      have HS := Lib.hid hs
      have hzp : p4 < wr.heap.size := (Array.getElem?_eq_some_iff.1 hRM).1
      clear hl hs hM6 hRM hO hR
      go_upto_region 8 with (first | refine wpList_slice83 (.tmp 4) rfl rfl p4 rfl ?_ | refine wpList_clear86 16 rfl rfl rfl p4 14 rfl M 83 HRM.out ?_)
      obtain ⟨wz, hwz⟩ : ∃ wz, wr.setCells p4 0 (List.replicate 14 (.bool false)) = wz := ⟨_, rfl⟩
      have rz : wz.heap[p4]? = some (.cells (bitCells noBits) 83 (0, 0)) := by rw [← hwz]; exact row_zeroed wr p4 M 83 _ rfl HRM.out
      have ez : Ext w wz := by rw [← hwz]; exact below_setCells _ 0 hX.out HP.out
      have oz : Made (p4 + 1) 3 l wz A6 c6 := by
        rw [← hwz]
        exact own_stay HM6.out (fun g hg => setCells_other _ _ _ _ _ (by have := (HM6.out.lt g hg).1; omega))
      have hzz : p4 < wz.heap.size := (Array.getElem?_eq_some_iff.1 rz).1
      rw [hwz]
      simp only [Act.put, List.setIfInBounds_toArray, List.set_cons_succ, List.set_cons_zero]
      have cz : wz.cell? ⟨p4, k, none⟩ = some (.bool (noBits k)) := (cell_of_row _ _ _ _ _ _ rz).trans (bitCells_get _ _ hk14)
      have fz : wz.frozen? ⟨p4, k, none⟩ = false := by simp [World.frozen?, rz]
      have RZ := Lib.hid rz
      have EZ := Lib.hid ez
      have OZ := Lib.hid oz
      clear hwz rz ez oz
      go_upto_region 9 with fail
      obtain ⟨wo, hwo⟩ : ∃ wo, wz.setCell ⟨p4, k, none⟩ (.bool true) = wo := ⟨_, rfl⟩
      have ro : wo.heap[p4]? = some (.cells (bitCells (oneBit k)) 83 (0, 0)) := by rw [← hwo, ← oneBit_set]; exact row_setCell _ _ _ _ _ _ _ RZ.out
      have eo : Ext w wo := by rw [← hwo]; exact set_kept EZ.out HP.out
      have oo : Made (p4 + 1) 3 l wo A6 c6 := by
        rw [← hwo]
        exact own_stay OZ.out (fun g hg => heap_set_other _ _ _ _ _ (by have := (OZ.out.lt g hg).1; omega))
      rw [hwo]
      have RO := Lib.hid ro
      have EO := Lib.hid eo
      have OO := Lib.hid oo
      have h65 := H65.out wo eo (oneBit k)
      have hck := HCB.out k
      have hdl := dueI_len os (oneBit k)
      obtain ⟨N2, hN2⟩ : ∃ N2, (dueI os (oneBit k)).length = N2 := ⟨_, rfl⟩
      simp only [hN2] at h65
      rw [hN2] at hck hdl
      clear hwo ro eo oo cz fz hN2
      by_cases hc : N2 < N
      · have hcz : (N2 : Int) < (N : Int) := by omega
        rw [decide_eq_true hc] at hck
        have HCK := Lib.hid hck
        clear hck
        go_wp2_with (first | refine wpList_load83 (.tmp 4) rfl rfl p4 rfl (bitCells (oneBit k)) (bitCells_size _) RO.out ?_ | (refine h65.mono ?_; rintro e w3 ⟨e3, A7, c7, rfl, _⟩; have HE3 := Lib.hid (EO.out.trans e3); have HR3 := Lib.hid (row_ext RO.out e3); have HM3 := Lib.hid (owns_ext OO.out e3); have hz3 : p4 < w3.heap.size := Nat.lt_of_lt_of_le (Array.getElem?_eq_some_iff.1 RO.out).1 e3.size; have HOA := Lib.hid (HM3.out.alloc (.cells #[.int .i64 (k : Int)] 3)); clear e3 h65) | (at_builtin; refine wpList_app1 rfl 25 27 30 3 rfl Tryz.underlying30 _ 1 8 info3 rfl (by decide) (by decide) (p4 + 1) l.length _ _ rfl HOA.out w3.heap.size [.int .i64 (k : Int)] rfl rfl (row_last _ _ _ rfl) (encI_one _) (by omega) (by simp; omega) ?_; intro A9 c9 w4 hown hB4 _; have HW4 := Lib.hid hown; have HE4 := Lib.hid (Below.trans (HE3.out.trans (ext_alloc _ _)) (hB4.mono (by have := HP.out; omega)) : Ext w w4); have HR4 := Lib.hid ((hB4.block p4 (by omega)).trans (row_alloc _ _ _ _ HR3.out)); clear hown hB4))
        go_roundw
        case measure => simp [intOf]; omega
        case rel =>
          have hs := HS.out
          rw [if_pos HCK.out] at hs
          refine ⟨k + 1, by omega, by go_num, HE4, Lib.hid ⟨_, HR4.out⟩, Lib.hid ⟨A9, c9, by rw [hs]; simp, ?_⟩⟩
          unfold Made
          rw [hs, List.length_append, List.map_append]
          exact HW4.out
      · have hcz : ¬ (N2 : Int) < (N : Int) := by omega
        rw [decide_eq_false hc] at hck
        have HCK := Lib.hid hck
        clear hck
        go_wp2_with (first | refine wpList_load83 (.tmp 4) rfl rfl p4 rfl (bitCells (oneBit k)) (bitCells_size _) RO.out ?_ | (refine h65.mono ?_; rintro e w3 ⟨e3, A7, c7, rfl, _⟩; have HE3 := Lib.hid (EO.out.trans e3); have HR3 := Lib.hid (row_ext RO.out e3); have HM3 := Lib.hid (OO.out.ext e3); clear e3 h65))
        go_roundw
        case measure => simp [intOf]; omega
        case rel =>
          have hs := HS.out
          rw [if_neg (by rw [HCK.out]; decide), List.append_nil] at hs
          exact ⟨k + 1, by omega, by go_num, HE3, Lib.hid ⟨_, HR3.out⟩, Lib.hid ⟨A6, c6, by rw [hs], by rw [hs]; exact HM3.out⟩⟩
    · have hltz : ¬ (k : Int) < (os.length : Int) := by omega
      obtain rfl : k = os.length := by omega
      have HM6 := Lib.hid hM6
      clear hM6 hO hR hRM
      go_wp2
      go_ret
      exact ⟨hX.out, A6, c6, rfl, owns_base HM6.out (by have := HP.out; omega)⟩

/-- What Costs answers. -/
def costsAns (os : List Odr) : List Int := if wholeErr os = 0 then costsI os else []
set_option maxRecDepth 100000 in
set_option maxHeartbeats 4000000 in
theorem costs_any {A : Option Addr} {n c : Nat} {os : List Odr} {w : World} (h : IsOrders w A n c os) :
    Calls Tryz.prog 25 #[.slice A n c] w (IntsPost 3 (costsAns os) (wholeErr os) w) := by
  have h64 := openedWhole_any h
  have hwh := fun h0 => (whole_ok (os := os) h0).2
  obtain ⟨E, hE⟩ : ∃ E, wholeErr os = E := ⟨_, rfl⟩
  have hd : costsAns os = if E = 0 then costsI os else [] := by rw [← hE]; rfl
  obtain ⟨ds, hds⟩ : ∃ ds, costsAns os = ds := ⟨_, rfl⟩
  rw [hds] at hd ⊢
  rw [hE] at h64 hwh ⊢
  have HD := Lib.hid hd
  have HWH := Lib.hid hwh
  clear hd hds hE h hwh
  go_enter Tryz.func25, Tryz.ntmps25
  go_wp2_with fail
  refine h64.mono ?_
  rintro e w1 ⟨e1, ⟨hn, rfl⟩ | ⟨rfl, A1, c1, rfl, hbk⟩⟩
  · have HE := Lib.hid e1
    have hd := HD.out
    rw [if_neg hn] at hd
    subst hd
    clear e1 h64
    go_wp2
    go_ret2
    exact ints_none 3 _ HE.out
  · have HE := Lib.hid e1
    have hd := HD.out
    rw [if_pos rfl] at hd
    subst hd
    have h68 := costs68_any hbk (HWH.out rfl)
    clear e1 h64 hbk
    go_wp2_with (refine h68.mono ?_; rintro e w2 ⟨e2, A5, c5, rfl, hM⟩; have HE2 := Lib.hid (HE.out.trans e2); have HM := Lib.hid hM; clear e2 hM h68)
    go_ret2
    exact ints_made HE2.out HM.out HE.out
end Go.Proofs.YtmlmnljbegcjcaaGreat

/- areApart: whether no bath does two of some orders. -/
namespace Go.Proofs.YtmlmnljbegcjcaaGreat
open Go.RowKit Go.Shelf
attribute [local go_sem] Oper.semAt_some
attribute [local irreducible] bitCells

section
variable {F : Fence} {n : Nat} {P : Program} {ops : Array Oper} {rest : List Oper} {o : Oper} {a : Act} {w : World} {Q : Exit → Act → World → Prop}
theorem wpListIn_val {v : Value} {w' : World} (hg : o.guard = none) (hnc : ∀ c, o.op ≠ .call c) (hnd : ∀ c, o.op ≠ .defer c) (hr : (execOp a.eval o).run P w = .ok (.value v) w') (h : wpListIn F n P ops Q rest (a.put o.dst v) w') : wpListIn F n P ops Q (o :: rest) a w := by
  refine wpListIn_plain hg fun K hK => ?_
  unfold Oper.wpIn
  refine ⟨?_, ?_⟩
  · intro f hf
    exfalso
    revert hf
    unfold Oper.about
    cases hop : o.op with
    | call c => exact absurd hop (hnc c)
    | _ => simp
  · rw [Oper.semAt_plain F _ _ hnd, hr]
    exact hK _ _ h
theorem wpListIn_skip {w' : World} (hg : o.guard = none) (hnc : ∀ c, o.op ≠ .call c) (hnd : ∀ c, o.op ≠ .defer c) (hr : (execOp a.eval o).run P w = .ok .skip w') (h : wpListIn F n P ops Q rest (a.put o.dst undef) w') : wpListIn F n P ops Q (o :: rest) a w := by
  refine wpListIn_plain hg fun K hK => ?_
  unfold Oper.wpIn
  refine ⟨?_, ?_⟩
  · intro f hf
    exfalso
    revert hf
    unfold Oper.about
    cases hop : o.op with
    | call c => exact absurd hop (hnc c)
    | _ => simp
  · rw [Oper.semAt_plain F _ _ hnd, hr]
    exact hK _ _ h
end
section
variable {F : Fence} {n : Nat} {ops : Array Oper} {rest : List Oper} {o : Oper} {a : Act} {w : World} {Q : Exit → Act → World → Prop}
theorem wpListIn_alloc83 (hg : o.guard = none) (ho : o.op = .alloc 83) (h : wpListIn F n Tryz.prog ops Q rest (a.put o.dst (.pointer (some ⟨w.heap.size, 0, none⟩))) (w.alloc (.cells (bitCells noBits) 83))) : wpListIn F n Tryz.prog ops Q (o :: rest) a w := by
  refine wpListIn_val hg (by rw [ho]; intro c h; cases h) (by rw [ho]; intro c h; cases h) ?_ h
  have hz := zero83 w
  have hn : (newVar 83 (.agg (bitCells noBits))).run Tryz.prog w = .ok ⟨w.heap.size, 0, none⟩ (w.alloc (.cells (bitCells noBits) 83)) := by
    go_simp
  simp [execOp, ho, Instr.alloc, hz, hn]
theorem wpListIn_store83 (x y : Operand) (hgd : o.guard = none) (ho : o.op = .store 83 x y) (hx : a.eval x = .pointer (some ⟨w.heap.size, 0, none⟩)) (cs : Array Value) (hs : cs.size = 14) (h1 : cs.all (·.oneCell') = true) (hy : a.eval y = .agg cs)
    (h : wpListIn F n Tryz.prog ops Q rest (a.put o.dst undef) (w.alloc (.cells cs 83))) : wpListIn F n Tryz.prog ops Q (o :: rest) a (w.alloc (.cells (bitCells noBits) 83)) := by
  refine wpListIn_skip hgd (by rw [ho]; intro c h; cases h) (by rw [ho]; intro c h; cases h) ?_ h
  have := run_storeCells_new (P := Tryz.prog) w 83 (bitCells noBits) cs (by rw [size83, hs]) (bitCells_size _ ▸ hs.symm ▸ rfl) h1
  obtain ⟨i, hi, hz⟩ := Option.map_eq_some_iff.1 size83
  have hso : (sizeOf 83).run Tryz.prog (w.alloc (.cells (bitCells noBits) 83)) = .ok cs.size (w.alloc (.cells (bitCells noBits) 83)) := by simp [sizeOf, typeInfo, hi, hz, hs]
  simp [execOp, ho, hx, hy, Instr.storeAt, Instr.sureAddr, storeVar, Value.cells, hso, this]
end

/-- How many of some orders a bath does. -/
def hitsOf (os : List Odr) (xs : List Int) (x : Int) : Nat := (xs.filter fun k => doesB os [x] k.toNat).length
def apartOk (os : List Odr) (xs : List Int) : Bool := (endsOf os).all fun x => decide (hitsOf os xs x ≤ 1)

set_option maxRecDepth 100000 in
set_option maxHeartbeats 4000000 in
theorem areApart_any {A : Option Addr} {c : Nat} {os : List Odr} {w : World} (hb : IsBook w A c os) (A' : Option Addr) (n' c' : Nat) (xs : List Int) (hn' : n' = xs.length) (hm' : n' ≤ 9223372036854775807) (hh : Held w w.heap.size 1 encI A' xs) (hxs : ∀ k, k ∈ xs → 0 ≤ k ∧ k < os.length) :
    Calls Tryz.prog 77 #[.slice A os.length c, .slice A' n' c'] w fun e w' => e = .returned (.bool (apartOk os xs)) ∧ Ext w w' := by
  have HB := Lib.hid hb
  have HH := Lib.hid hh
  have HN := Lib.hid hn'
  have HXS := Lib.hid hxs
  have h14 := hb.few.2
  clear hb hh hn' hxs
  refine (callsIn_wide (n := 12)).1 ?_
  refine callsIn_of_wp_marks Tryz.func77 rfl trivial ?_ rfl
  simp only [Tryz.ntmps77, List.size_toArray, List.length_cons, List.length_nil, Nat.reduceAdd, Nat.reduceSub, Array.replicate_succ, Array.replicate_zero, List.push_toArray, List.append_toArray, List.nil_append, List.cons_append]
  gi_upto_region 1 with fail
  have z3 : (((w.alloc (.cells #[.slice A os.length c] 75)).alloc (.cells #[.slice A' n' c'] 30)).alloc (.cells #[.bool false] 4)).heap.size = w.heap.size + 3 := by simp
  have e3 : Ext w (((w.alloc (.cells #[.slice A os.length c] 75)).alloc (.cells #[.slice A' n' c'] 30)).alloc (.cells #[.bool false] 4)) := ((ext_alloc _ _).trans (ext_alloc _ _)).trans (ext_alloc _ _)
  have r0 : (((w.alloc (.cells #[.slice A os.length c] 75)).alloc (.cells #[.slice A' n' c'] 30)).alloc (.cells #[.bool false] 4)).heap[w.heap.size]? = some (.cells #[.slice A os.length c] 75 (0, 0)) := row_alloc _ _ _ _ (row_alloc _ _ _ _ (row_last _ _ _ rfl))
  have r1 : (((w.alloc (.cells #[.slice A os.length c] 75)).alloc (.cells #[.slice A' n' c'] 30)).alloc (.cells #[.bool false] 4)).heap[w.heap.size + 1]? = some (.cells #[.slice A' n' c'] 30 (0, 0)) := row_alloc _ _ _ _ (row_last _ _ _ (by simp))
  have r2 : (((w.alloc (.cells #[.slice A os.length c] 75)).alloc (.cells #[.slice A' n' c'] 30)).alloc (.cells #[.bool false] 4)).heap[w.heap.size + 2]? = some (.cells #[.bool false] 4 (0, 0)) := row_last _ _ _ (by simp)
  obtain ⟨w2, hw2⟩ : ∃ w2, (((w.alloc (.cells #[.slice A os.length c] 75)).alloc (.cells #[.slice A' n' c'] 30)).alloc (.cells #[.bool false] 4)) = w2 := ⟨_, rfl⟩
  rw [hw2] at z3 e3 r0 r1 r2 ⊢
  obtain ⟨pd, hpd⟩ : ∃ pd, w.heap.size = pd := ⟨_, rfl⟩
  have HZ := Lib.hid (show w.heap.size ≤ pd from Nat.le_of_eq hpd)
  rw [hpd] at z3 r0 r1 r2 ⊢
  have hcall := ends_any (HB.out.ext e3)
  have q0 : w2.cell? ⟨pd, 0, none⟩ = some (.slice A os.length c) := cell_of_row _ _ _ _ _ _ r0
  clear hw2 hpd
  gi_wp2_with (refine ⟨trivial, ?_⟩; gi_at_call 98; refine (callsIn_wide.2 hcall).mono ?_; rintro e w3 ⟨pe, pb, A2, c2, rfl, hE, e4⟩)
  have HZ4 : Hid (pd + 3 ≤ w3.heap.size) := Lib.hid (by rw [← z3]; exact e4.size)
  have R0 := Lib.hid (row_ext r0 e4)
  have R1 := Lib.hid (row_ext r1 e4)
  have R2 := Lib.hid (row_ext r2 e4)
  have HE3 := Lib.hid (e3.trans e4)
  have hst := ends_stops 11 (by omega) w3 hE hE.on
  have hon := hE.on
  clear q0 r0 r1 r2 e3 z3 hcall e4
  refine wpIn_rangeFunc_ownH rfl (by omega) (gf := 124) (lb := #[.pointer (some ⟨pe, 0, none⟩), .pointer (some ⟨pb, 0, none⟩)]) rfl trivial enters124
    hst keepsOn_t (keepsOn_b hon) (Below.refl _ _) (fun _ => rfl)
    (fun pre W => (∀ x, x ∈ pre → hitsOf os xs x ≤ 1) ∧ Below w3.heap.size w3 W)
    (fun cd pre W => (cd = .ret ∧ (∃ x, x ∈ pre ∧ ¬ hitsOf os xs x ≤ 1) ∧ W.heap[pd + 2]? = some (.cells #[.bool false] 4 (0, 0))) ∧ Ext w W)
    (fun pre X Y row hs hg hr => ⟨hs.1, hs.2.grown hg hs.2.size (fun r e => (hr r e).1)⟩)
    (fun cd pre X Y row hs hg hr => by
      obtain ⟨⟨h1, h2, h5⟩, h7⟩ := hs
      have hr' := fun r e => (hr r e).2
      exact ⟨⟨h1, h2, heap_kept h5 hg hr'⟩, Below.grown h7 hg h7.size (fun r e => by have := (hr r e).1; have := HZ4.out; have := HZ.out; omega)⟩)
    ⟨fun x hx => absurd hx (by simp), Below.refl _ _⟩
    (fun x a' _ => a' = { tmps := #[.slice A os.length c, .slice A' n' c', .pointer (some ⟨pd, 0, none⟩), .pointer (some ⟨pd + 1, 0, none⟩), .pointer (some ⟨pd + 1 + 1, 0, none⟩), .int .i64 x, undef, undef, undef, undef, .slice A os.length c, .func (.func 124) #[] #[.pointer (some ⟨pe, 0, none⟩), .pointer (some ⟨pb, 0, none⟩)], .int .i64 x, undef, undef, undef, undef, undef, undef, undef, undef, undef, undef, undef, undef, undef, undef, undef, undef, undef, undef], defers := [] })
    (fun _ _ _ _ _ _ hs _ _ => hs)
    ?assign ?body ?done ?stop
  case assign =>
    rintro l pre x W K hI hK
    gi_wp2
    exact hK _ _ (KeepsFrom.refl _ _) (keepsOn_r _) hI rfl
  case body =>
    rintro l pre x a' W hl ⟨r, hr⟩ ⟨hpre, hBW⟩ rfl hlt2
    have hE3 : Ext w3 W := hBW
    have hp0 : W.cell? ⟨pd, 0, none⟩ = some (.slice A os.length c) := cell_of_row _ _ _ _ _ _ (row_ext R0.out hE3)
    have h57 := does_one (HB.out.ext (HE3.out.trans hE3)) x
    have hhx : hitsOf os xs x = (xs.filter fun k => doesB os [x] k.toNat).length := rfl
    obtain ⟨H, hH⟩ : ∃ H, hitsOf os xs x = H := ⟨_, rfl⟩
    rw [hH] at hhx
    obtain ⟨D, hD⟩ : ∃ D, doesB os [x] = D := ⟨_, rfl⟩
    rw [hD] at h57 hhx
    have HPRE := Lib.hid hpre
    have HBW := Lib.hid hE3
    have HON := Lib.hid hon
    have HL := Lib.hid hl
    have HH2 := Lib.hid (And.intro hH hhx)
    have hpl : pd < W.heap.size := by have := HZ4.out; have := hE3.size; omega
    clear hpre hBW hst hr hE hon hl hH hhx hD
    gi_upto_region 4 with (first | (refine ⟨trivial, ?_⟩; gi_at_call 57; refine (CallsIn.inRound l (callsIn_wide.2 h57)).mono ?_; rintro e w4 ⟨rfl, e4⟩; have HE4 := Lib.hid (Ext.trans (ext_alloc W _) e4); clear e4 h57) | refine wpListIn_alloc83 rfl rfl ?_ | refine wpListIn_store83 (.tmp 6) (.tmp 16) rfl rfl rfl (bitCells D) (bitCells_size _) (bitCells_one _) rfl ?_)
    obtain ⟨w5, hw5⟩ : ∃ w5, w4.alloc (.cells (bitCells D) 83) = w5 := ⟨_, rfl⟩
    obtain ⟨p6, hp6⟩ : ∃ p6, w4.heap.size = p6 := ⟨_, rfl⟩
    have r6 : w5.heap[p6]? = some (.cells (bitCells D) 83 (0, 0)) := by rw [← hw5]; exact row_last _ _ _ hp6.symm
    have e5 : Ext W w5 := by rw [← hw5]; exact HE4.out.trans (ext_alloc _ _)
    rw [hw5, hp6]
    have hp1 : w5.cell? ⟨pd + 1, 0, none⟩ = some (.slice A' n' c') := cell_of_row _ _ _ _ _ _ (row_ext R1.out (Ext.trans HBW.out e5))
    have HR6 := Lib.hid r6
    have HE5 := Lib.hid e5
    clear hw5 hp6 r6 e5 HE4 hp0 hpl
    simp only [Act.put, List.setIfInBounds_toArray, List.set_cons_succ, List.set_cons_zero]
    gi_wp2
    gi_loopw [7, 19] (fun v i wr => ∃ j : Nat, j ≤ n' ∧ i = .int .i64 j ∧ v = .int .i64 (((xs.take j).filter fun k => D k.toNat).length : Nat) ∧ Hid (Ext w5 wr)) (fun _ i _ => n' - (intOf i).toNat)
    case atStart => exact ⟨0, Nat.zero_le _, rfl, rfl, Lib.hid (Ext.refl _)⟩
    case round =>
      obtain ⟨j, hj, rfl, rfl, hX⟩ := hrel
      clear hp1
      by_cases hlt : j < n'
      · have hltz : (j : Int) < (n' : Int) := by omega
        have hjl : j < xs.length := by rw [← HN.out]; exact hlt
        have hEw : Ext w wr := ((HE3.out.trans HBW.out).trans HE5.out).trans hX.out
        obtain ⟨b, off, rfl, hc⟩ := int_get (HH.out.ext hEw) hjl
        obtain ⟨k0, k1⟩ := HXS.out xs[j] (List.getElem_mem hjl)
        obtain ⟨k, hk⟩ : ∃ k : Nat, xs[j] = (k : Int) := ⟨xs[j].toNat, by omega⟩
        have htk : (xs.take (j + 1)).filter (fun k => D k.toNat) = (xs.take j).filter (fun k => D k.toNat) ++ (if D k = true then [xs[j]] else []) := by
          rw [List.take_succ_eq_append_getElem hjl, List.filter_append]
          congr 1
          rw [hk]
          cases h : D k <;> simp [h]
        have hfl : ((xs.take j).filter fun k => D k.toNat).length ≤ j := Nat.le_trans (List.length_filter_le _ _) (by rw [List.length_take]; omega)
        rw [hk] at hc k1
        have hk14 : k < 14 := by omega
        have hk14z : (k : Int) < 14 := by omega
        have hd : wr.cell? ⟨p6, k, none⟩ = some (.bool (D k)) := (cell_of_row _ _ _ _ _ _ (row_ext HR6.out hX.out)).trans (bitCells_get _ _ hk14)
        obtain ⟨q, hq⟩ : ∃ q, D k = q := ⟨_, rfl⟩
        rw [hq] at hd htk
        obtain ⟨m, hm⟩ : ∃ m, ((xs.take j).filter fun k => D k.toNat).length = m := ⟨_, rfl⟩
        rw [hm] at hfl ⊢
        have htl := congrArg List.length htk
        rw [List.length_append, hm] at htl
        have HT := Lib.hid htl
        clear htl htk hm hq hk k0 k1 hEw
        cases q with
        | true =>
          gi_wp2
          go_roundw
          case measure => simp [intOf]; omega
          case rel => exact ⟨j + 1, by omega, by go_num, by rw [HT.out]; go_num, hX⟩
        | false =>
          gi_wp2
          go_roundw
          case measure => simp [intOf]; omega
          case rel => exact ⟨j + 1, by omega, by go_num, by rw [HT.out]; simp, hX⟩
      · have hltz : ¬ (j : Int) < (n' : Int) := by omega
        obtain rfl : j = n' := by omega
        have hH : ((xs.take j).filter fun k => D k.toNat).length = H := by rw [List.take_of_length_le (Nat.le_of_eq HN.out.symm)]; exact HH2.out.2.symm
        rw [hH]
        clear hH
        have hX3 : Ext W wr := HE5.out.trans hX.out
        by_cases hc : H ≤ 1
        · have hcz : ¬ (1 : Int) < (H : Int) := by omega
          have hcz2 : ¬ (H : Int) > 1 := by omega
          gi_wp2
          refine ⟨(keepsOthers_below hX3).from _, keepsOn_ext hX3 (fun b h => Nat.lt_of_lt_of_le (HON.out b h) HBW.out.size), fun z hz => ?_, Ext.trans HBW.out hX3⟩
          rcases List.mem_append.1 hz with h | h
          · exact HPRE.out z h
          · rw [List.mem_singleton.1 h, HH2.out.1]; exact hc
        · have hcz : (1 : Int) < (H : Int) := by omega
          have hcz2 : (H : Int) > 1 := by omega
          have r2 := row_ext R2.out (Ext.trans HBW.out hX3)
          have d2 : wr.cell? ⟨pd + 1 + 1, 0, none⟩ = some (.bool false) := cell_of_row _ _ _ _ _ _ r2
          have f2 : wr.frozen? ⟨pd + 1 + 1, 0, none⟩ = false := by simp [World.frozen?, r2]
          have HR2 := Lib.hid r2
          clear r2
          gi_wp2
          refine ⟨((keepsOthers_below hX3).trans (KeepsOthers.setCell _ _ _)).from _, ⟨rfl, ⟨x, by simp, by rw [HH2.out.1]; omega⟩, row_setCell _ _ _ _ _ _ _ HR2.out⟩, set_kept ((HE3.out.trans HBW.out).trans hX3) (by have := HZ.out; omega)⟩
  case done =>
    rintro D zs W hD rfl ⟨hpre, hBW⟩ hK
    have HPRE := Lib.hid hpre
    have hEr : Ext w3 W := hBW
    have r2 := row_ext R2.out hEr
    have d2 : W.cell? ⟨pd + 1 + 1, 0, none⟩ = some (.bool false) := cell_of_row _ _ _ _ _ _ r2
    have f2 : W.frozen? ⟨pd + 1 + 1, 0, none⟩ = false := by simp [World.frozen?, r2]
    have HR := Lib.hid hEr
    have HR2 := Lib.hid r2
    clear hpre hBW hst hE hon hEr r2
    gi_wp2
    refine leavesM_marks [D] _ (by simp) (fun E hE => ?_) (fun W' hs => ?_)
    · rw [List.mem_singleton.1 hE, heap_set_other _ _ _ _ _ (by have := HZ4.out; omega)]; exact hK
    · have hc5 : W'.cell? ⟨pd + 1 + 1, 0, none⟩ = some (.bool true) := (World.cell?_of_block (hs.block (pd + 1 + 1) (by rw [List.mem_singleton]; have := HZ4.out; omega))).trans (cell_of_row _ _ _ _ _ _ (row_setCell _ _ _ _ _ _ _ HR2.out))
      have hok : apartOk os xs = true := List.all_eq_true.2 fun x hx => by simpa using HPRE.out x hx
      refine ⟨.bool true, by simp [results, Tryz.f77, go_sem, hc5], by rw [hok], Below.trans (set_kept (HE3.out.trans HR.out) (by have := HZ.out; omega)) (hs.below fun E hE => ?_)⟩
      rw [List.mem_singleton.1 hE]
      have := HR.out.size
      have := HE3.out.size
      omega
  case stop =>
    rintro D cd pre W hD hsp ⟨⟨rfl, ⟨x, hx, hbad⟩, h5⟩, h7⟩ hK
    have hok : apartOk os xs = false := by
      rw [Bool.eq_false_iff]
      intro h
      have := List.all_eq_true.1 h x (hsp.subset hx)
      exact hbad (by simpa using this)
    have HOK := Lib.hid hok
    have HR := Lib.hid h7
    have HR2 := Lib.hid h5
    clear hst hE hon h5 h7 hok hsp hbad
    gi_wp2
    refine leavesM_marks [D] _ (by simp) (fun E hE => ?_) (fun W' hs => ?_)
    · rw [List.mem_singleton.1 hE]; exact hK
    · have hc5 : W'.cell? ⟨pd + 1 + 1, 0, none⟩ = some (.bool false) := (World.cell?_of_block (hs.block (pd + 1 + 1) (by rw [List.mem_singleton]; have := HZ4.out; omega))).trans (cell_of_row _ _ _ _ _ _ HR2.out)
      refine ⟨.bool false, by simp [results, Tryz.f77, go_sem, hc5], by rw [HOK.out], Below.trans HR.out (hs.below fun E hE => ?_)⟩
      rw [List.mem_singleton.1 hE]
      have := HE3.out.size
      omega
end Go.Proofs.YtmlmnljbegcjcaaGreat

/- CheckApart. -/
namespace Go.Proofs.YtmlmnljbegcjcaaGreat
open Go.RowKit Go.Shelf
attribute [local irreducible] bitCells

/-- Whether a number is one of n orders. -/
def isOrd (n : Nat) (x : Int) : Bool := decide (0 ≤ x) && decide (x < n)
theorem e53 : ∀ args w, (callFunc 53 args).run Tryz.prog w = .ok (.enter 53 args) w := enters_of Tryz.func53 (by kernel_rfl) rfl
theorem e74 : ∀ args w, (callFunc 74 args).run Tryz.prog w = .ok (.enter 74 args) w := enters_of Tryz.func74 (by kernel_rfl) rfl
set_option maxHeartbeats 1000000 in
theorem badOrd (A1 : Option Addr) (m c1 : Nat) (B : Nat) (xs : List Int) (w : World) (hB : B < w.heap.size) (hc : w.cell? ⟨B, 0, none⟩ = some (.func (.func 53) #[.slice A1 m c1] #[])) :
    PredOn 96 #[.pointer (some ⟨B, 0, none⟩)] (Value.int .i64) (fun x => !isOrd m x) xs w := fun W x hx hb => by
  have hc' : W.cell? ⟨B, 0, none⟩ = some (.func (.func 53) #[.slice A1 m c1] #[]) := (hb.cell (p := ⟨B, 0, none⟩) hB).trans hc
  have hBW : B < W.heap.size := Nat.lt_of_lt_of_le hB hb.size
  have hne : B ≠ W.heap.size := by omega
  have hcall := isOrder_any A1 m c1 x W
  have eg := e53
  clear hc
  show Calls Tryz.prog 96 #[.int .i64 x, .pointer (some ⟨B, 0, none⟩)] W fun e w' => e = .returned (.bool !isOrd m x) ∧ Below W.heap.size W w'
  rw [show (decide (0 ≤ x) && decide (x < (m : Int))) = isOrd m x from rfl] at hcall
  generalize isOrd m x = q at hcall ⊢
  go_enter Tryz.func96, Tryz.ntmps96
  go_wp2_with (go_at_fn 53; refine hcall.mono ?_; rintro e w' ⟨rfl, hb'⟩)
  go_ret
  exact ⟨rfl, hb'⟩
set_option maxHeartbeats 1000000 in
theorem everyOrd (A1 : Option Addr) (m c1 : Nat) (A : Option Addr) (n c : Nat) (xs : List Int) (w : World) (hnn : n = xs.length)
    (hn : n ≤ 9223372036854775807) (hh : Held w w.heap.size 1 encI A xs) :
    Calls Tryz.prog 76 #[.slice A n c, .func (.func 53) #[.slice A1 m c1] #[]] w fun e w' => e = .returned (.bool (xs.all (isOrd m))) ∧ Below w.heap.size w w' := by
  have e2 : ∀ args w, (callFunc 96 args).run Tryz.prog w = .ok (.enter 96 args) w := enters_of Tryz.func96 (by kernel_rfl) rfl
  have hb0 : Below w.heap.size w (w.alloc (.cells #[.func (.func 53) #[.slice A1 m c1] #[]] 78)) := (Below.refl _ w).alloc (Nat.le_refl _) _
  have hcon := firstInt 96 #[.pointer (some ⟨w.heap.size, 0, none⟩)] e2 (fun x => !isOrd m x) A n c xs (w.alloc (.cells #[.func (.func 53) #[.slice A1 m c1] #[]] 78)) hnn hn
    ((hh.kept hb0 (Nat.le_refl _)).wider (by simp)) (badOrd A1 m c1 w.heap.size xs _ (by simp) (by simp))
  have HA := all_of_findIdx (isOrd m) xs
  rw [← hnn] at HA
  generalize xs.findIdx (fun x => !isOrd m x) = r at hcon HA
  generalize xs.all (isOrd m) = q at HA ⊢
  have HQ := Lib.hid HA; clear HA hh hnn
  go_enter Tryz.func76, Tryz.ntmps76
  go_wp2_with (go_at_call 97; refine hcon.mono ?_; rintro e w' ⟨rfl, hb'⟩)
  go_ret
  exact ⟨ret_bool HQ.out, bstep hb0 (by simp) hb'⟩
/-- Whether an order has births. -/
def hasAt (os : List Odr) (x : Int) : Bool := hasB (oAt os x.toNat)
set_option maxHeartbeats 1000000 in
theorem hasPred74 {A1 : Option Addr} {c1 : Nat} {os : List Odr} {w : World} (hb : IsBook w A1 c1 os) (p : Nat) (hp : w.heap[p]? = some (.cells #[.slice A1 os.length c1] 75 (0, 0))) (xs : List Int) (hxs : ∀ x, x ∈ xs → isOrd os.length x = true) :
    PredOn 74 #[.pointer (some ⟨p, 0, none⟩)] (Value.int .i64) (hasAt os) xs w := fun W x hx hbw => by
  have hrow : W.heap[p]? = some (.cells #[.slice A1 os.length c1] 75 (0, 0)) := row_ext hp (show Ext w W from hbw)
  have hcp : W.cell? ⟨p, 0, none⟩ = some (.slice A1 os.length c1) := cell_of_row _ _ _ _ _ _ hrow
  have hv := hxs x hx
  simp [isOrd] at hv
  obtain ⟨k, rfl⟩ : ∃ k : Nat, x = k := ⟨x.toNat, by omega⟩
  have hk : k < os.length := by omega
  have hkz : (k : Int) < (os.length : Int) := by omega
  obtain ⟨b, off, rfl, hbl, c0, c1', c2, c3, c4, c5, c6⟩ := (hb.ext (show Ext w W from hbw)).at hk
  have hoat : oAt os k = os[k] := oAt_get hk
  have h54 := hasBirths_any os[k] W
  have hq : hasAt os (k : Int) = hasB os[k] := by unfold hasAt; rw [Int.toNat_natCast, hoat]
  obtain ⟨q, hqq⟩ : ∃ q, hasB os[k] = q := ⟨_, rfl⟩
  rw [hqq] at h54 hq
  show Calls Tryz.prog 74 #[.int .i64 (k : Int), .pointer (some ⟨p, 0, none⟩)] W fun e w' => e = .returned (.bool (hasAt os k)) ∧ Below W.heap.size W w'
  rw [hq]
  obtain ⟨o, ho⟩ : ∃ o, os[k] = o := ⟨_, rfl⟩
  rw [ho] at h54 c0 c1' c2 c3 c4 c5 c6
  clear hq hqq hoat ho hv hx hrow hp hb hxs hbw
  go_enter Tryz.func74, Tryz.ntmps74
  go_wp2_with (refine h54.mono ?_; rintro e w' ⟨rfl, hb'⟩)
  go_ret
  exact ⟨rfl, hb'⟩
def checkApartErr (os : List Odr) (xs : List Int) : Int :=
  if ordersErr os = 0 then if xs.Pairwise (· < ·) ∧ xs.all (isOrd os.length) = true then if xs.all (hasAt os) = true then if apartOk os xs = true then 0 else 14 else 22 else 3 else ordersErr os

set_option maxRecDepth 100000 in
set_option maxHeartbeats 4000000 in
theorem checkApart_any {A : Option Addr} {n c : Nat} {os : List Odr} {w : World} (h : IsOrders w A n c os) (A' : Option Addr) (n' c' : Nat) (xs : List Int) (hn' : n' = xs.length) (hm' : n' ≤ 9223372036854775807) (hh : Held w w.heap.size 1 encI A' xs) :
    Calls Tryz.prog 33 #[.slice A n c, .slice A' n' c'] w fun e w' => e = .returned (.int .i64 (checkApartErr os xs)) ∧ Ext w w' := by
  have h52 := opened_any h
  have h75 := fun W (hW : Ext w W) => risingInt A' n' c' xs W hn' hm' (hh.ext hW)
  have hev := fun W (hW : Ext w W) A1 m c1 => everyOrd A1 m c1 A' n' c' xs W hn' hm' (hh.ext hW)
  have h76 := fun W (hW : Ext w W) p A1 c1 (hb : IsBook W A1 c1 os) hp (hx : ∀ x, x ∈ xs → isOrd os.length x = true) => everyInt 74 #[.pointer (some ⟨p, 0, none⟩)] e74 (hasAt os) A' n' c' xs W hn' hm' (hh.ext hW) (hasPred74 hb p hp xs hx)
  have h77 := fun W (hW : Ext w W) A1 c1 (hb : IsBook W A1 c1 os) (hx : ∀ x, x ∈ xs → isOrd os.length x = true) => areApart_any hb A' n' c' xs hn' hm' (hh.ext hW) (fun k hk => by have := hx k hk; simp [isOrd] at this; omega)
  obtain ⟨E, hE⟩ : ∃ E, ordersErr os = E := ⟨_, rfl⟩
  have ha : checkApartErr os xs = if E = 0 then if xs.Pairwise (· < ·) ∧ xs.all (isOrd os.length) = true then if xs.all (hasAt os) = true then if apartOk os xs = true then 0 else 14 else 22 else 3 else E := by rw [← hE]; rfl
  obtain ⟨Z, hZ⟩ : ∃ Z, checkApartErr os xs = Z := ⟨_, rfl⟩
  rw [hZ] at ha ⊢
  rw [hE] at h52
  have HA := Lib.hid ha
  have H75 := Lib.hid h75
  have HEV := Lib.hid hev
  have H76 := Lib.hid h76
  have H77 := Lib.hid h77
  clear ha hE hZ h hh hn' h75 hev h76 h77
  go_enter Tryz.func33, Tryz.ntmps33
  go_wp2_with fail
  refine h52.mono ?_
  rintro e w1 ⟨e1, ⟨hn, rfl⟩ | ⟨rfl, A1, c1, rfl, hbk⟩⟩
  · have HE := Lib.hid e1
    have ha := HA.out
    rw [if_neg hn] at ha
    subst ha
    clear e1 h52
    go_wp2
    go_ret
    exact ⟨rfl, HE.out.trans (ext_alloc _ _)⟩
  · have HE := Lib.hid e1
    have ha := HA.out
    rw [if_pos rfl] at ha
    replace HA := Lib.hid ha
    have HB := Lib.hid hbk
    clear e1 h52 hbk ha
    go_upto_region 5 with fail
    obtain ⟨p5, hp5⟩ : ∃ p5, w1.heap.size = p5 := ⟨_, rfl⟩
    obtain ⟨w2, hw2⟩ : ∃ w2, w1.alloc (.cells #[.slice A1 os.length c1] 75) = w2 := ⟨_, rfl⟩
    have r5 : w2.heap[p5]? = some (.cells #[.slice A1 os.length c1] 75 (0, 0)) := by rw [← hw2]; exact row_last _ _ _ hp5.symm
    have e2 : Ext w1 w2 := by rw [← hw2]; exact ext_alloc _ _
    rw [hw2, hp5]
    have HR := Lib.hid r5
    have HE2 := Lib.hid (HE.out.trans e2)
    have HB2 := Lib.hid (HB.out.ext e2)
    have h75 := H75.out w2 HE2.out
    clear hw2 hp5 e2 r5
    by_cases hp : xs.Pairwise (· < ·)
    · rw [decide_eq_true hp] at h75
      obtain ⟨q, hq⟩ : ∃ q, xs.all (isOrd os.length) = q := ⟨_, rfl⟩
      have ha := HA.out
      rw [hq] at ha
      have HQ := Lib.hid hq
      have HPP := Lib.hid hp
      clear hp hq
      go_wp2_with (refine h75.mono ?_; rintro e w3 ⟨rfl, e3⟩; have HE3 := Lib.hid (HE2.out.trans (show Ext w2 w3 from e3)); have HB3 := Lib.hid (HB2.out.ext (show Ext w2 w3 from e3)); have HR3 := Lib.hid (row_ext HR.out (show Ext w2 w3 from e3)); have cp3 : w3.cell? ⟨p5, 0, none⟩ = some (.slice A1 os.length c1) := cell_of_row _ _ _ _ _ _ HR3.out; have h76 := HEV.out w3 HE3.out A1 os.length c1; rw [HQ.out] at h76; clear e3 h75)
      refine h76.mono ?_
      rintro e w4 ⟨rfl, e4⟩
      have HE4 := Lib.hid (HE3.out.trans (show Ext w3 w4 from e4))
      have HB4 := Lib.hid (HB3.out.ext (show Ext w3 w4 from e4))
      have HR4 := Lib.hid (row_ext HR3.out (show Ext w3 w4 from e4))
      clear e4 h76 cp3
      cases q with
      | false =>
        rw [if_neg (by simp)] at ha
        subst ha
        go_wp2
        go_ret
        exact ⟨rfl, HE4.out⟩
      | true =>
        rw [if_pos ⟨HPP.out, rfl⟩] at ha
        have hx : ∀ x, x ∈ xs → isOrd os.length x = true := List.all_eq_true.1 HQ.out
        have h76 := H76.out w4 HE4.out p5 A1 c1 HB4.out HR4.out hx
        have HX := Lib.hid hx
        obtain ⟨q2, hq2⟩ : ∃ q2, xs.all (hasAt os) = q2 := ⟨_, rfl⟩
        rw [hq2] at ha h76
        clear hx hq2
        cases q2 with
        | false =>
          rw [if_neg (by decide)] at ha
          subst ha
          go_wp2_with (refine h76.mono ?_; rintro e w5 ⟨rfl, e5⟩; have HE5 := Lib.hid (HE4.out.trans (show Ext w4 w5 from e5)); clear e5 h76)
          go_ret
          exact ⟨rfl, HE5.out⟩
        | true =>
          rw [if_pos rfl] at ha
          obtain ⟨q3, hq3⟩ : ∃ q3, apartOk os xs = q3 := ⟨_, rfl⟩
          have HQ3 := Lib.hid hq3
          rw [hq3] at ha
          clear hq3
          go_wp2_with (refine h76.mono ?_; rintro e w5 ⟨rfl, e5⟩; have HE5 := Lib.hid (HE4.out.trans (show Ext w4 w5 from e5)); have HB5 := Lib.hid (HB4.out.ext (show Ext w4 w5 from e5)); have HR5 := Lib.hid (row_ext HR4.out (show Ext w4 w5 from e5)); have cp5 : w5.cell? ⟨p5, 0, none⟩ = some (.slice A1 os.length c1) := cell_of_row _ _ _ _ _ _ HR5.out; have h77 := H77.out w5 HE5.out A1 c1 HB5.out HX.out; rw [HQ3.out] at h77; clear e5 h76)
          refine h77.mono ?_
          rintro e w6 ⟨rfl, e6⟩
          have HE6 := Lib.hid (HE5.out.trans e6)
          clear e6 h77 cp5
          cases q3 with
          | false =>
            rw [if_neg (by decide)] at ha
            subst ha
            go_wp2
            go_ret
            exact ⟨rfl, HE6.out⟩
          | true =>
            rw [if_pos rfl] at ha
            subst ha
            go_wp2
            go_ret
            exact ⟨rfl, HE6.out⟩
    · rw [decide_eq_false hp] at h75
      have ha := HA.out
      rw [if_neg (fun h => hp h.1)] at ha
      subst ha
      clear hp
      go_wp2_with (refine h75.mono ?_; rintro e w3 ⟨rfl, e3⟩; have HE3 := Lib.hid (HE2.out.trans (show Ext w2 w3 from e3)); clear e3 h75)
      go_ret
      exact ⟨rfl, HE3.out⟩
end Go.Proofs.YtmlmnljbegcjcaaGreat

/- together: the prices of all orders that a bath does. -/
namespace Go.Proofs.YtmlmnljbegcjcaaGreat
open Go.RowKit Go.Shelf
attribute [local irreducible] bitCells

/-- The prices of the first k orders that a bath does. -/
def togTo (os : List Odr) (x : Int) (ps : List Int) (k : Nat) : Int := sumI ((List.range k).map fun i => if doesB os [x] i then ps.getD i 0 else 0)
/-- The prices of all orders that a bath does. -/
def togB (os : List Odr) (x : Int) (ps : List Int) : Int := togTo os x ps 14
theorem togTo_succ (os : List Odr) (x : Int) (ps : List Int) (k : Nat) : togTo os x ps (k + 1) = togTo os x ps k + if doesB os [x] k then ps.getD k 0 else 0 := by
  unfold togTo
  rw [List.range_succ, List.map_append, sumI_append]
  simp [sumI]
/-- Prices that are not great. -/
def Fair (ps : List Int) : Prop := ∀ p, p ∈ ps → -10000000 ≤ p ∧ p ≤ 10000000
theorem getD_fair {ps : List Int} (h : Fair ps) (k : Nat) : -10000000 ≤ ps.getD k 0 ∧ ps.getD k 0 ≤ 10000000 := by
  by_cases hk : k < ps.length
  · have := h ps[k] (List.getElem_mem hk)
    simpa [List.getD_eq_getElem?_getD, List.getElem?_eq_getElem hk] using this
  · simp [List.getD_eq_getElem?_getD, List.getElem?_eq_none (Nat.le_of_not_lt hk)]
theorem togTo_bound {os : List Odr} {ps : List Int} (hf : Fair ps) (x : Int) : ∀ k : Nat, -(10000000 * (k : Int)) ≤ togTo os x ps k ∧ togTo os x ps k ≤ 10000000 * k
  | 0 => by simp [togTo, sumI]
  | k + 1 => by
    have ih := togTo_bound hf x k (os := os)
    rw [togTo_succ]
    have := getD_fair hf k
    cases h : doesB os [x] k
    · rw [if_neg (by decide)]; omega
    · rw [if_pos rfl]; omega
theorem togB_bound {os : List Odr} {ps : List Int} (hf : Fair ps) (x : Int) : -140000000 ≤ togB os x ps ∧ togB os x ps ≤ 140000000 := by
  have := togTo_bound (os := os) hf x 14
  unfold togB
  omega

set_option maxRecDepth 100000 in
set_option maxHeartbeats 2000000 in
theorem together_any {A : Option Addr} {c : Nat} {os : List Odr} {w : World} (hb : IsBook w A c os) (x : Int) (A' : Option Addr) (n' c' : Nat) (ps : List Int) (hn' : n' = ps.length) (hl : ps.length = os.length) (hf : Fair ps) (hh : Held w w.heap.size 1 encI A' ps) :
    Calls Tryz.prog 102 #[.slice A os.length c, .int .i64 x, .slice A' n' c'] w fun e w' => e = .returned (.int .i64 (togB os x ps)) ∧ Ext w w' := by
  have h57 := does_one hb x
  have hbd := togTo_bound (os := os) hf x
  have hsu := togTo_succ os x ps
  have hlt := fun i => does_lt (os := os) (bs := [x]) (i := i)
  have hM : ∀ (i : Nat) W, i < 14 → (Instr.index 83 (.agg (bitCells (doesB os [x]))) (.int .i64 (i : Int))).run Tryz.prog W = .ok (.bool (doesB os [x] i)) W := fun i W hi => run_index83 _ i hi W
  have HH := Lib.hid hh
  have HN := Lib.hid hn'
  have HL := Lib.hid hl
  have HF := Lib.hid hf
  obtain ⟨D, hD⟩ : ∃ D, doesB os [x] = D := ⟨_, rfl⟩
  unfold togB
  obtain ⟨WT, hW⟩ : ∃ WT, togTo os x ps = WT := ⟨_, rfl⟩
  rw [hD] at h57
  simp only [hD] at hsu hlt hM
  simp only [hW] at hsu hbd ⊢
  have hw0 : WT 0 = 0 := by rw [← hW]; rfl
  have HM := Lib.hid hM
  have HBD := Lib.hid hbd
  have HSU := Lib.hid hsu
  have HLT := Lib.hid hlt
  clear hb hD hW hM hbd hsu hlt hh hn' hl hf
  go_enter Tryz.func102, Tryz.ntmps102
  go_wp2_with (refine h57.mono ?_; rintro e w1 ⟨rfl, e1⟩; have HE := Lib.hid (Ext.trans (ext_alloc w _) e1); clear e1 h57)
  go_loopw [7, 8, 9, 14] (fun s _ _ i wr => ∃ k : Nat, k ≤ 14 ∧ i = .int .i64 k ∧ s = .int .i64 (WT k) ∧ wr = w1) (fun _ _ _ i _ => 14 - (intOf i).toNat)
  case atStart => exact ⟨0, Nat.zero_le _, rfl, by rw [hw0], rfl⟩
  case round =>
    obtain ⟨k, hk, rfl, rfl, rfl⟩ := hrel
    by_cases hlt : k < 14
    · have hltz : (k : Int) < 14 := by omega
      have hbit := HM.out k wr hlt
      have hsu := HSU.out k
      have hbd := HBD.out k
      cases hq : D k with
      | true =>
        rw [hq] at hbit hsu
        rw [if_pos rfl] at hsu
        have hkl := HLT.out k hq
        have hkp : k < ps.length := by rw [HL.out]; exact hkl
        have hkn : k < n' := by rw [HN.out]; exact hkp
        have hknz : (k : Int) < (n' : Int) := by omega
        obtain ⟨b, off, rfl, hc⟩ := int_get (HH.out.ext HE.out) hkp
        have hwb := HF.out _ (List.getElem_mem hkp)
        rw [show ps.getD k 0 = ps[k] from by simp [List.getD_eq_getElem?_getD, List.getElem?_eq_getElem hkp]] at hsu
        obtain ⟨p, hp⟩ : ∃ p, ps[k] = p := ⟨_, rfl⟩
        rw [hp] at hc hsu hwb
        obtain ⟨s, hs⟩ : ∃ s, WT k = s := ⟨_, rfl⟩
        obtain ⟨s2, hs2⟩ : ∃ s2, WT (k + 1) = s2 := ⟨_, rfl⟩
        rw [hs] at hbd
        rw [hs, hs2] at hsu
        rw [hs]
        have hwr : IntKind.i64.wrap (s + p) = s + p := IntWalk.i64_in _ (by omega)
        have HS2 := Lib.hid hs2
        have HSU2 := Lib.hid hsu
        clear hs hs2 hp hsu hbd hwb hq
        go_wp2
        go_roundw
        case measure => simp [intOf]; omega
        case rel => exact ⟨k + 1, by omega, by go_num, by rw [HS2.out, HSU2.out], trivial⟩
      | false =>
        rw [hq] at hbit hsu
        rw [if_neg (by decide), Int.add_zero] at hsu
        have HSU2 := Lib.hid hsu
        clear hq hsu hbd
        go_wp2
        go_roundw
        case measure => simp [intOf]; omega
        case rel => exact ⟨k + 1, by omega, by go_num, by rw [HSU2.out], trivial⟩
    · have hltz : ¬ (k : Int) < 14 := by omega
      obtain rfl : k = 14 := by omega
      go_wp2
      go_ret
      exact ⟨rfl, HE.out⟩

/-- Whether each price is one of its order. -/
def pricesOk (os : List Odr) (ps : List Int) : Bool := (List.range ps.length).all fun i => [ps.getD i 0].all (inside 0 (oAt os i).worth)
set_option maxRecDepth 100000 in
set_option maxHeartbeats 2000000 in
theorem arePrices_any {A : Option Addr} {c : Nat} {os : List Odr} {w : World} (hb : IsBook w A c os) (A' : Option Addr) (n' c' : Nat) (ps : List Int) (hn' : n' = ps.length) (hl : ps.length = os.length) (hh : Held w w.heap.size 1 encI A' ps) :
    Calls Tryz.prog 81 #[.slice A os.length c, .slice A' n' c'] w fun e w' => e = .returned (.bool (pricesOk os ps)) ∧ Ext w w' := by
  have HB := Lib.hid hb
  have HH := Lib.hid hh
  have HN := Lib.hid hn'
  have HL := Lib.hid hl
  have h14 := hb.few.2
  have hn14 : n' ≤ 14 := by omega
  clear hb hh hn' hl
  go_enter Tryz.func81, Tryz.ntmps81
  go_wp2
  go_loopw [9] (fun i wr => ∃ k : Nat, k ≤ n' ∧ i = .int .i64 k ∧ Hid (Ext w wr) ∧ Hid (∀ j, j < k → [ps.getD j 0].all (inside 0 (oAt os j).worth) = true)) (fun i _ => n' - (intOf i).toNat)
  case atStart => exact ⟨0, Nat.zero_le _, rfl, Lib.hid (Ext.refl _), Lib.hid fun j h => absurd h (by omega)⟩
  case round =>
    obtain ⟨k, hk, rfl, hE, hA⟩ := hrel
    by_cases hlt : k < n'
    · have hltz : (k : Int) < (n' : Int) := by omega
      have hkp : k < ps.length := by rw [← HN.out]; exact hlt
      have hkl : k < os.length := by rw [← HL.out]; exact hkp
      have hklz : (k : Int) < (os.length : Int) := by omega
      obtain ⟨b1, o1, rfl, hc⟩ := int_get (HH.out.ext hE.out) hkp
      obtain ⟨b, off, rfl, hbl, _, _, _, _, c4, _⟩ := (HB.out.ext hE.out).at hkl
      have hoat := oAt_get hkl
      have hgd : ps.getD k 0 = ps[k] := by simp [List.getD_eq_getElem?_getD, List.getElem?_eq_getElem hkp]
      obtain ⟨v, hv⟩ : ∃ v, os[k].worth = v := ⟨_, rfl⟩
      obtain ⟨p, hp⟩ : ∃ p, ps[k] = p := ⟨_, rfl⟩
      rw [hv] at c4
      rw [hp] at hc hgd
      have hq1 : [ps.getD k 0].all (inside 0 (oAt os k).worth) = [p].all (inside 0 v) := by rw [hgd, hoat, hv]
      have h61 := within 0 v (some ⟨wr.heap.size, 0, none⟩) 1 1 [p] (wr.alloc (.cells #[.int .i64 p] 2)) rfl (by decide) (held_row (row_last _ _ _ rfl) rfl)
      obtain ⟨q, hq⟩ : ∃ q, [p].all (inside 0 v) = q := ⟨_, rfl⟩
      rw [hq] at h61 hq1
      have HQ := Lib.hid hq1
      clear hv hp hgd hoat hq hq1
      cases q with
      | true =>
        go_wp2_with (refine h61.mono ?_; rintro e w2 ⟨rfl, e2⟩; have HE2 := Lib.hid ((hE.out.trans (ext_alloc _ _)).trans (show Ext _ w2 from e2)); clear e2 h61)
        go_roundw
        case measure => simp [intOf]; omega
        case rel =>
          refine ⟨k + 1, by omega, by go_num, HE2, Lib.hid fun j hj => ?_⟩
          by_cases e : j = k
          · subst e; exact HQ.out
          · exact hA.out j (by omega)
      | false =>
        go_wp2_with (refine h61.mono ?_; rintro e w2 ⟨rfl, e2⟩; have HE2 := Lib.hid ((hE.out.trans (ext_alloc _ _)).trans (show Ext _ w2 from e2)); clear e2 h61)
        go_ret
        have : pricesOk os ps = false := by
          unfold pricesOk
          rw [List.all_eq_false]
          exact ⟨k, List.mem_range.2 hkp, by rw [HQ.out]; decide⟩
        exact ⟨by rw [this]; rfl, HE2.out⟩
    · have hltz : ¬ (k : Int) < (n' : Int) := by omega
      obtain rfl : k = n' := by omega
      have hok : pricesOk os ps = true := by
        unfold pricesOk
        rw [List.all_eq_true]
        intro j hj
        exact hA.out j (by have := List.mem_range.1 hj; have := HN.out; omega)
      have HOK := Lib.hid hok
      clear hok
      go_wp2
      go_ret
      exact ⟨by rw [HOK.out]; rfl, hE.out⟩
end Go.Proofs.YtmlmnljbegcjcaaGreat
