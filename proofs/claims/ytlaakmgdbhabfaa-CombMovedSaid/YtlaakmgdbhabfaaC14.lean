/- Texts of one package, joined: Apart. -/
import Derived.Test.YtlaakmgdbhabfaaC11
import Derived.Test.YtlaakmgdbhabfaaC13
import Derived.WalkMore
/- Apart. -/
namespace Go.Proofs.Ytlaakmgdbhabfaa
open Go.RowKit Go.Shelf
attribute [local go_sem] Oper.semAt_some
attribute [local irreducible] bitCells fitCells Z94 fitOf

/-- The mark that a range over a function leaves among the deferred calls. -/
abbrev markOf (D : Nat) : Deferred := { target := .collected D, args := #[] }
/-- The blocks Ds, and no others, were shut. -/
structure ShutOf (Ds : List Nat) (W W' : World) : Prop where
  os : W'.os = W.os
  tape : W'.tape = W.tape
  output : W'.output = W.output
  size : W'.heap.size = W.heap.size
  block : ∀ i, i ∉ Ds → W'.heap[i]? = W.heap[i]?
theorem ShutOf.below {Ds : List Nat} {W W' : World} {B : Nat} (h : ShutOf Ds W W') (hB : ∀ D, D ∈ Ds → B ≤ D) : Below B W W' :=
  ⟨h.os, h.tape, h.output, by rw [h.size]; exact Nat.le_refl _, fun i hi => h.block i (fun e => by have := hB i e; omega)⟩

theorem leavesM_marks {F : Fence} {n : Nat} {P : Program} {fn : Func} {tmps : Array Value} {R : Ending → World → Prop} : ∀ (Ds : List Nat) (W : World), Ds.Nodup → (∀ D, D ∈ Ds → W.heap[D]? = some (.deferred (some []))) →
    (∀ W', ShutOf Ds W W' → LeavesInM F n P fn tmps R [] .returning W') → LeavesInM F n P fn tmps R (Ds.map markOf) .returning W
  | [], W, _, _, h => h W ⟨rfl, rfl, rfl, rfl, fun _ _ => rfl⟩
  | D :: Ds, W, hn, hall, h => by
    have hD := hall D (by simp)
    rw [List.nodup_cons] at hn
    have hg := grownBy_putObj' W D (.deferred none)
    have hz : (W.putObj D (.deferred none)).heap.size = W.heap.size := by simp [World.putObj]
    refine ⟨by simp, .inl ⟨D, _, rfl, run_takeDeferred hD, leavesM_marks Ds _ hn.2 (fun E hE => ?_) (fun W' hs => h W' ?_)⟩⟩
    · have hlt : E < W.heap.size := (Array.getElem?_eq_some_iff.1 (hall E (by simp [hE]))).1
      exact (hg.block E hlt (fun e => hn.1 (by cases e; exact hE))).trans (hall E (by simp [hE]))
    · refine ⟨hs.os.trans hg.os, hs.tape.trans hg.tape, hs.output.trans hg.output, hs.size.trans hz, fun i hi => ?_⟩
      rw [List.mem_cons, not_or] at hi
      rw [hs.block i hi.2]
      show (W.heap.setIfInBounds D _)[i]? = _
      rw [Array.getElem?_setIfInBounds_ne (fun e => hi.1 e.symm)]

/-- The first list of at most so many marks that are apart, the longest ones first. -/
def apartTo (cs ms : List (Int × Int)) : Nat → List Nat
  | 0 => []
  | L + 1 => match (gOf (L + 1) ms.length ms.length []).find? (apartB cs ms) with
    | some js => js
    | none => apartTo cs ms L

theorem lsOf_lt (long n : Nat) : ∀ (f : Nat) (xs : List Nat), (∀ x, x ∈ xs → x < n) → f ≤ n → ∀ js, js ∈ lsOf long n f xs → ∀ j, j ∈ js → j < n
  | 0, xs, _, _, js, h => by simp [lsOf] at h
  | f + 1, xs, hx, hf, js, h => by
    have hxs : ∀ x, x ∈ xs ++ [n - (f + 1)] → x < n := fun x hm => by
      rcases List.mem_append.1 hm with h | h
      · exact hx x h
      · rw [List.mem_singleton.1 h]; omega
    rw [lsOf_succ, List.mem_append] at h
    rcases h with h | h
    · unfold gOf at h
      split at h
      · rw [List.mem_singleton.1 h]; exact hxs
      · exact lsOf_lt long n f _ hxs (by omega) js h
    · exact lsOf_lt long n f xs hx (by omega) js h
theorem gOf_lt {long n : Nat} {js : List Nat} (h : js ∈ gOf long n n []) : ∀ j, j ∈ js → j < n := by
  unfold gOf at h
  split at h
  · rw [List.mem_singleton.1 h]; intro j hj; simp at hj
  · exact lsOf_lt long n n [] (fun x hx => by simp at hx) (Nat.le_refl _) js h
theorem lsOf_len (long n : Nat) : ∀ (f : Nat) (xs js : List Nat), js ∈ lsOf long n f xs → js.length = long
  | 0, xs, js, h => by simp [lsOf] at h
  | f + 1, xs, js, h => by
    rw [lsOf_succ, List.mem_append] at h
    rcases h with h | h
    · unfold gOf at h
      split at h
      · rename_i h1
        rw [List.mem_singleton.1 h]; exact h1
      · exact lsOf_len long n f _ js h
    · exact lsOf_len long n f xs js h
theorem gOf_len {long n : Nat} {js : List Nat} (h : js ∈ gOf long n n []) : js.length = long := by
  unfold gOf at h
  split at h
  · rename_i h1
    rw [List.mem_singleton.1 h]; exact h1
  · exact lsOf_len long n n [] js h
theorem others_ext {W W' : World} (e : Ext W W') : KeepsOthers W W' := ⟨e.size, fun _k _o hk _ => row_ext hk e⟩
theorem find_hit {α : Type} {p : α → Bool} {q l : List α} {x : α} (h : (q ++ [x]) <+: l) (hq : ∀ y, y ∈ q → p y = false) (hx : p x = true) : l.find? p = some x := by
  obtain ⟨t, rfl⟩ := h
  rw [List.append_assoc, List.find?_append, List.find?_eq_none.2 (fun y hy => by simp [hq y hy])]
  simp [hx]

set_option maxRecDepth 100000 in
set_option maxHeartbeats 2000000 in
theorem apart_any {A : Option Addr} {n c : Nat} {A' : Option Addr} {n' c' : Nat} {cs ms : List (Int × Int)} {w : World} (hb : IsSheet w w.heap.size A n c A' n' c' cs ms) :
    Calls Try.prog 28 #[.agg #[.slice A n c, .slice A' n' c']] w fun e w' => Ext w w' ∧ ∃ v, e = .returned (.tuple #[v, .int .i64 (sheetErr cs ms)]) ∧ LsAt (if sheetErr cs ms = 0 then apartTo cs ms ms.length else []) v w' := by
  have e0 : Ext w (w.alloc (.cells #[.slice A n c, .slice A' n' c'] 25)) := ext_alloc _ _
  have hop := opened_any (hb.ext e0)
  have HN := Lib.hid hb.nms
  have HE := Lib.hid e0
  obtain ⟨ER, hER⟩ : ∃ ER, sheetErr cs ms = ER := ⟨_, rfl⟩
  obtain ⟨ANS, hANS⟩ : ∃ ANS, (if sheetErr cs ms = 0 then apartTo cs ms ms.length else []) = ANS := ⟨_, rfl⟩
  rw [hANS, hER]
  rw [hER] at hANS
  have HA := Lib.hid hANS
  have HR := Lib.hid hER
  clear hb e0 hANS hER
  refine (callsIn_wide (n := 12)).1 ?_
  refine callsIn_of_wp_marks Try.func28 rfl trivial ?_ rfl
  simp only [Try.ntmps28, List.size_toArray, List.length_cons, List.length_nil, Nat.reduceAdd, Nat.reduceSub, Array.replicate_succ, Array.replicate_zero, List.push_toArray, List.append_toArray, List.nil_append, List.cons_append]
  refine wpIn_wide.2 ?_
  go_wp2
  go_step3
  go_wp2_with fail
  refine hop.mono ?_
  rintro e w1 ⟨e1, ⟨h0, rfl⟩ | ⟨h0, b, A2, k2, c2, rfl, hO⟩⟩
  · have HE1 := Lib.hid (HE.out.trans e1)
    rw [HR.out] at h0 ⊢
    have ha := HA.out
    rw [if_neg h0] at ha
    subst ha
    have hne : (ER == 0) = false := by simpa using h0
    have hne2 : (ER != 0) = true := by simpa using h0
    clear e1 hop
    go_wp2
    refine ⟨.tuple #[.slice none 0 0, .int .i64 ER], by simp [results, Try.f28, go_sem], HE1.out.trans (ext_alloc _ _), _, rfl, none, 0, rfl, Nat.le_refl _, fun _ => rfl, .inl rfl⟩
  · have HE1 := Lib.hid (HE.out.trans e1)
    have H0 := Lib.hid h0
    have hnl : n' = ms.length := HN.out
    have hn12 : n' ≤ 12 := by have := (sheet_ok h0).1; omega
    have HNL := Lib.hid hnl
    obtain ⟨q0, q1, q2⟩ := hO.cells
    have hbl := (Array.getElem?_eq_some_iff.1 hO.row).1
    have HO := Lib.hid hO
    have he := HR.out
    rw [h0] at he
    subst he
    have ha := HA.out
    rw [if_pos rfl] at ha
    have HA1 := Lib.hid ha
    clear e1 hop hO h0 hnl ha
    go_wp2
    go_step3
    go_wp2
    obtain ⟨WB, hWB⟩ : ∃ WB, (w1.alloc (.cells #[.pointer (some ⟨b, 0, none⟩)] 83)).alloc (.cells #[.slice none 0 0] 30) = WB := ⟨_, rfl⟩
    have eB : Ext w1 WB := by rw [← hWB]; exact (ext_alloc _ _).trans (ext_alloc _ _)
    have bO : WB.heap[w1.heap.size]? = some (.cells #[.pointer (some ⟨b, 0, none⟩)] 83 (0, 0)) := by rw [← hWB]; exact row_ext (row_last _ _ _ rfl) (ext_alloc _ _)
    have bA : Boxed WB (w1.heap.size + 1) 30 (.slice none 0 0) := by rw [← hWB]; exact row_last _ _ _ (by simp)
    rw [hWB]
    clear hWB q0 q1 q2
    have hzB := bA.lt
    refine wp_loop (fun a' w2 => ∃ (L : Nat) (Ds : List Nat) (u23 u24 u25 u26 u27 u28 u29 : Value), (L ≤ n' ∧ apartTo cs ms L = ANS ∧ Ds.Nodup ∧ (∀ D, D ∈ Ds → WB.heap.size ≤ D ∧ w2.heap[D]? = some (.deferred (some []))) ∧ Below WB.heap.size WB w2) ∧
        a' = { tmps := #[.agg #[.slice A n c, .slice A' n' c'], .pointer (some ⟨w.heap.size, 0, none⟩), .slice none 0 0, .int .i64 0, .pointer (some ⟨w1.heap.size, 0, none⟩), .int .i64 0, .pointer (some ⟨w1.heap.size + 1, 0, none⟩), .int .i64 (L : Int), undef, .tuple #[.pointer (some ⟨b, 0, none⟩), .int .i64 0], .agg #[.slice A n c, .slice A' n' c'], .tuple #[.pointer (some ⟨b, 0, none⟩), .int .i64 0], .pointer (some ⟨b, 0, none⟩), .int .i64 0, .int .i64 0, .bool false, undef, .pointer (some ⟨b, 0, none⟩), .pointer (some ⟨b, 0, none⟩), .pointer (some ⟨b, 0, none⟩), .pointer (some ⟨b, 1, none⟩), .slice A' n' c', .int .i64 (n' : Int), u23, u24, u25, u26, u27, u28, u29, undef, undef, undef, undef, undef, undef], defers := Ds.map markOf })
      (fun a' _ => (intOf (a'.tmps.getD 7 undef)).toNat) ?_ ?_
    · exact ⟨n', [], _, _, _, _, _, _, _, ⟨Nat.le_refl _, by rw [HNL.out]; exact HA1.out, List.nodup_nil, fun D hD => absurd hD (by simp), Below.refl _ _⟩, rfl⟩
    · rintro _ w2 ⟨L, Ds, u23, u24, u25, u26, u27, u28, u29, ⟨hL, hap, hnd, hDs, hB2⟩, rfl⟩
      have HDS := Lib.hid (And.intro hnd hDs)
      have HAP := Lib.hid hap
      have hB2z := hB2.size
      have e2 : Ext w1 w2 := eB.trans (hB2.mono (Nat.le_refl _))
      have c4 : w2.cell? ⟨w1.heap.size, 0, none⟩ = some (.pointer (some ⟨b, 0, none⟩)) := cell_of_row _ _ _ _ _ _ ((hB2.block _ (by omega)).trans bO)
      clear hnd hDs hap
      by_cases hL0 : L = 0
      · have hLz : ¬ (0 : Int) < (L : Int) := by omega
        have c6 : w2.cell? ⟨w1.heap.size + 1, 0, none⟩ = some (.slice none 0 0) := cell_of_row _ _ _ _ _ _ ((hB2.block _ hzB).trans bA)
        have hans : ANS = [] := by rw [← HAP.out, hL0]; rfl
        clear hL0
        go_wp2
        refine leavesM_marks Ds w2 HDS.out.1 (fun E hE => (HDS.out.2 E hE).2) (fun W' hs => ?_)
        have hzw := HE1.out.size
        exact ⟨.tuple #[.slice none 0 0, .int .i64 0], by simp [results, Try.f28, go_sem], Below.trans (HE1.out.trans e2) (hs.below (fun E hE => by have := (HDS.out.2 E hE).1; omega)), _, rfl, by rw [hans]; exact ⟨none, 0, rfl, Nat.le_refl _, fun _ => rfl, .inl rfl⟩⟩
      · have hLz : (0 : Int) < (L : Int) := by omega
        go_wp2_with (go_at_call 67; refine (lists_any b (L : Int) w2).mono ?_; rintro e w' ⟨rfl, rfl⟩)
        obtain ⟨WI, hWI⟩ : ∃ WI, (w2.alloc (.cells #[.pointer (some ⟨b, 0, none⟩)] 83)).alloc (.cells #[.int .i64 (L : Int)] 3) = WI := ⟨_, rfl⟩
        have eI : Ext w2 WI := by rw [← hWI]; exact (ext_alloc _ _).trans (ext_alloc _ _)
        have hs83 : WI.heap[w2.heap.size]? = some (.cells #[.pointer (some ⟨b, 0, none⟩)] 83 (0, 0)) := by rw [← hWI]; exact row_ext (row_last _ _ _ rfl) (ext_alloc _ _)
        have hs3 : WI.heap[w2.heap.size + 1]? = some (.cells #[.int .i64 (L : Int)] 3 (0, 0)) := by rw [← hWI]; exact row_last _ _ _ (by simp)
        rw [hWI]
        clear hWI c4
        have hzI := eI.size
        have hseq := lists_seq (long := L) (12 - 1) (by omega) hn12 WI hs3 hs83 (row_ext HO.out.row (e2.trans eI))
        have HSQ := Lib.hid hseq
        have HEI := Lib.hid (e2.trans eI)
        clear hs83 hs3 hseq
        refine (wpIn_wide (n := 12)).1 ?_
        refine range_held (by omega) rfl enters94 HSQ.out (Below.refl _ _) (Nat.le_refl _)
          (fun pre W => (∀ js, js ∈ pre → apartB cs ms js = false) ∧ Below WI.heap.size WI W)
          (fun pre W => (∃ q js, pre = q ++ [js] ∧ (∀ x, x ∈ q → apartB cs ms x = false) ∧ apartB cs ms js = true ∧ ∃ v, Boxed W (w1.heap.size + 1) 30 v ∧ LsAt js v W) ∧ WI.grownBy W (some (w1.heap.size + 1))) 0
          (fun s X X' hs e => ⟨hs.1, hs.2.trans (Below.mono e hs.2.size)⟩)
          (fun s X l o o' hs hl ho hc => ⟨hs.1, hs.2.trans (KeepsCells.put o' hl ho hc).1⟩)
          ?xput ?hdput ⟨fun js hjs => absurd hjs (by simp), Below.refl _ _⟩
          (fun v => { tmps := #[.agg #[.slice A n c, .slice A' n' c'], .pointer (some ⟨w.heap.size, 0, none⟩), .slice none 0 0, .int .i64 0, .pointer (some ⟨w1.heap.size, 0, none⟩), .int .i64 0, .pointer (some ⟨w1.heap.size + 1, 0, none⟩), .int .i64 (L : Int), v, .tuple #[.pointer (some ⟨b, 0, none⟩), .int .i64 0], .agg #[.slice A n c, .slice A' n' c'], .tuple #[.pointer (some ⟨b, 0, none⟩), .int .i64 0], .pointer (some ⟨b, 0, none⟩), .int .i64 0, .int .i64 0, .bool false, undef, .pointer (some ⟨b, 0, none⟩), .pointer (some ⟨b, 0, none⟩), .pointer (some ⟨b, 0, none⟩), .pointer (some ⟨b, 1, none⟩), .slice A' n' c', .int .i64 (n' : Int), .int .i64 (L : Int), .bool true, u25, u26, .pointer (some ⟨b, 0, none⟩), .int .i64 (L : Int), .func (.func 94) #[] #[.pointer (some ⟨w2.heap.size + 1, 0, none⟩), .pointer (some ⟨w2.heap.size, 0, none⟩)], v, undef, undef, undef, undef, undef], defers := [] })
          ?assign ?body ?done ?stop
        case xput =>
          rintro s X l o o' ⟨⟨q, js, h1, h2, h3, v, h4, h5⟩, hg⟩ hl ho hc
          have hk := KeepsCells.put (n₀ := WI.heap.size) o' hl ho hc
          refine ⟨⟨q, js, h1, h2, h3, v, hk.2 _ _ _ _ h4, h5.keep hk.1.size hk.2⟩, ⟨hk.1.os.trans hg.os, hk.1.tape.trans hg.tape, hk.1.output.trans hg.output, Nat.le_trans hg.size hk.1.size, fun i hi hne => (hk.1.block i hi).trans (hg.block i hi hne)⟩⟩
        case hdput =>
          intro x v X l o o' hx ho hc
          have hk := KeepsCells.put (n₀ := 0) o' (Nat.zero_le _) ho hc
          exact hx.keep hk.1.size hk.2
        case assign =>
          rintro l v W K hK
          gi_wp2
          exact hK
        case body =>
          rintro l pre js v W ⟨hpre, hBW⟩ hpr hv
          obtain ⟨A9, c9, hv9, hc9, hn9, hh9⟩ := id hv
          have eW : Ext w1 W := HEI.out.trans hBW
          have eBW : Ext WB W := (Ext.trans hB2 eI).trans hBW
          have hmem : js ∈ gOf L n' n' [] := hpr.subset (by simp)
          have hcall := areApart_any (HO.out.ext eW) H0.out A9 js.length c9 js rfl (by rw [gOf_len hmem]; omega) (fun j hj => by have := gOf_lt hmem j hj; omega) hh9
          have c4 : W.cell? ⟨w1.heap.size, 0, none⟩ = some (.pointer (some ⟨b, 0, none⟩)) := cell_of_row _ _ _ _ _ _ (row_ext bO eBW)
          have HV := Lib.hid hv
          rw [hv9] at hv ⊢
          have HBX := Lib.hid (row_ext bA eBW)
          have HP := Lib.hid (And.intro hpre hBW)
          clear hv hc9 hn9 hh9 eW eBW hmem hpre hBW
          cases hap : apartB cs ms js with
          | false =>
            rw [hap] at hcall
            have HAB := Lib.hid hap
            clear hap
            gi_wp2_with (refine ⟨trivial, ?_⟩; gi_at_call 68; refine (CallsIn.inRound l (callsIn_wide.2 hcall)).mono ?_; rintro e W3 ⟨rfl, e3⟩)
            exact ⟨others_ext e3, KeepsCells.ext e3 HP.out.2.size, fun x hx => by
              rcases List.mem_append.1 hx with hx | hx
              · exact HP.out.1 x hx
              · rw [List.mem_singleton.1 hx]; exact HAB.out, HP.out.2.trans (Below.mono e3 HP.out.2.size)⟩
          | true =>
            rw [hap] at hcall
            have HAB := Lib.hid hap
            clear hap
            gi_wp2_with (refine ⟨trivial, ?_⟩; gi_at_call 68; refine (CallsIn.inRound l (callsIn_wide.2 hcall)).mono ?_; rintro e W3 ⟨rfl, e3⟩; have B6 : Boxed W3 (w1.heap.size + 1) 30 (.slice none 0 0) := row_ext HBX.out e3; have c6 := B6.cell; have f6 := B6.frozen)
            have hzW := HP.out.2.size
            have hg3 : WI.grownBy W3 (some (w1.heap.size + 1)) := ⟨e3.os.trans HP.out.2.os, e3.tape.trans HP.out.2.tape, e3.output.trans HP.out.2.output, Nat.le_trans hzW e3.size, fun i hi _ => (e3.block i (by omega)).trans (HP.out.2.block i hi)⟩
            have hks := KeepsOthers.setCell W3 ⟨w1.heap.size + 1, 0, none⟩ (.slice A9 js.length c9)
            refine ⟨rfl, (others_ext e3).trans hks, ⟨pre, js, rfl, HP.out.1, HAB.out, _, B6.set _, ?_⟩, ?gset⟩
            case gset =>
              have hgs := grownBy_setCell' W3 (w1.heap.size + 1) (.slice A9 js.length c9)
              exact ⟨hgs.os.trans hg3.os, hgs.tape.trans hg3.tape, hgs.output.trans hg3.output, Nat.le_trans hg3.size hgs.size, fun i hi hne => (hgs.block i (Nat.lt_of_lt_of_le hi hg3.size) hne).trans (hg3.block i hi hne)⟩
            have hl : LsAt js (.slice A9 js.length c9) W3 := by rw [← hv9]; exact HV.out.keep e3.size (fun _ _ _ _ h => row_ext h e3)
            obtain ⟨A8, c8, h1, h2, h3, h4⟩ := hl
            refine ⟨A8, c8, h1, h2, h3, ?_⟩
            rcases h4 with h4 | ⟨b5, off5, rfl, hb5, hc5⟩
            · exact .inl h4
            · refine .inr ⟨b5, off5, rfl, by simpa using hb5, fun j x hx i u hu => ?_⟩
              have h5 := hc5 j x hx i u hu
              by_cases hbe : b5 = w1.heap.size + 1
              · exfalso
                subst hbe
                have hj0 : i = 0 := by
                  cases i with
                  | zero => rfl
                  | succ i => simp [encN] at hu
                subst hj0
                simp only [encN, List.getElem?_cons_zero, Option.some.injEq] at hu
                subst hu
                have h6 : W3.heap[w1.heap.size + 1]? = some (.cells #[.slice none 0 0] 30 (0, 0)) := B6
                simp only [World.cell?, h6] at h5
                have h7 := Array.mem_of_getElem? (by simpa using h5 : (#[Value.slice none 0 0] : Array Value)[off5 + j]? = some (.int .i64 (x : Int)))
                simp at h7
              · simp only [World.cell?] at h5 ⊢
                rw [heap_set_other _ _ _ _ _ hbe]
                exact h5
        case done =>
          rintro D W hD ⟨hpre, hBW⟩ hK
          have eWW : Ext w2 W := eI.trans hBW
          have hW1 : ∀ E, E ∈ Ds → E < w2.heap.size := fun E hE => (Array.getElem?_eq_some_iff.1 (HDS.out.2 E hE).2).1
          have hLn : ((L - 1 : Nat) : Int) = (L : Int) - 1 := by omega
          have hap1 : apartTo cs ms (L - 1) = ANS := by
            rw [← HAP.out]
            obtain ⟨M, rfl⟩ : ∃ M, L = M + 1 := ⟨L - 1, by omega⟩
            simp only [apartTo, Nat.add_sub_cancel]
            rw [← HNL.out, List.find?_eq_none.2 (fun js hjs => by simp [hpre js hjs])]
          have H := Lib.hid (And.intro eWW (And.intro hW1 hap1))
          clear hpre eWW hW1 hap1
          go_wp2
          refine ⟨⟨L - 1, D :: Ds, _, _, _, _, _, _, _, ⟨by omega, H.out.2.2, List.nodup_cons.2 ⟨fun e => by have := H.out.2.1 D e; omega, HDS.out.1⟩, ?_, hB2.trans (Below.mono H.out.1 hB2z)⟩, by rw [hLn]; rfl⟩, ?_⟩
          · intro E hE
            rcases List.mem_cons.1 hE with rfl | hE
            · exact ⟨by omega, hK⟩
            · have := H.out.2.1 E hE
              exact ⟨(HDS.out.2 E hE).1, row_ext (HDS.out.2 E hE).2 H.out.1⟩
          · simp [intOf]; omega
        case stop =>
          rintro D pre W hD hpr ⟨⟨q, js, rfl, hq, hjs, v, hbox, hv⟩, hg⟩ hK
          have c6 := hbox.cell
          gi_wp2
          go_wp2
          have hzw := HE1.out.size
          have hW1 : ∀ E, E ∈ Ds → E < w2.heap.size := fun E hE => (Array.getElem?_eq_some_iff.1 (HDS.out.2 E hE).2).1
          refine leavesM_marks (D :: Ds) W (List.nodup_cons.2 ⟨fun e => by have := hW1 D e; omega, HDS.out.1⟩) (fun E hE => ?_) (fun W' hs => ?_)
          · rcases List.mem_cons.1 hE with rfl | hE
            · exact hK
            · have := hW1 E hE
              have h9 := (HDS.out.2 E hE).1
              exact ((hg.block E (by omega) (fun e => by cases e; omega)).trans (eI.block E (by omega))).trans (HDS.out.2 E hE).2
          · have hDz : ∀ E, E ∈ D :: Ds → WB.heap.size ≤ E := fun E hE => by
              rcases List.mem_cons.1 hE with rfl | hE
              · omega
              · exact (HDS.out.2 E hE).1
            have hks : ∀ (b : Nat) (cs : Array Value) (t : TypeId) (fr : Nat × Nat), W.heap[b]? = some (Obj.cells cs t fr) → W'.heap[b]? = some (Obj.cells cs t fr) := fun b5 cs5 t5 fr5 h5 => by
              refine (hs.block b5 (fun e => ?_)).trans h5
              rcases List.mem_cons.1 e with rfl | hE
              · rw [hK] at h5; cases h5
              · have h8 := hW1 b5 hE
                have h9 := (HDS.out.2 b5 hE).1
                have h10 := ((hg.block b5 (by omega) (fun e => by cases e; omega)).trans (eI.block b5 (by omega))).trans (HDS.out.2 b5 hE).2
                rw [h10] at h5; cases h5
            have hans : ANS = js := by
              rw [← HAP.out]
              obtain ⟨M, rfl⟩ : ∃ M, L = M + 1 := ⟨L - 1, by omega⟩
              simp only [apartTo]
              rw [← HNL.out, find_hit hpr hq hjs]
            refine ⟨.tuple #[v, .int .i64 0], by simp [results, Try.f28, go_sem], ?_, _, rfl, by rw [hans]; exact hv.keep (by rw [hs.size]; exact Nat.le_refl _) hks⟩
            have h7 : Below w.heap.size w WI := Below.trans (HE1.out.trans e2) (Below.mono eI (by omega))
            exact (h7.grown hg (by omega) (fun k e => by cases e; omega)).trans (hs.below (fun E hE => by have := hDz E hE; omega))
end Go.Proofs.Ytlaakmgdbhabfaa
