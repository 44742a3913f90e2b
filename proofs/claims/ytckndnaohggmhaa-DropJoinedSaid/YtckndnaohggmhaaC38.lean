/- Texts of the package drop, joined: StepsPure, RefSteps, RefJoined, RefWayPure. -/
import Derived.Test.YtckndnaohggmhaaC18
import Derived.Test.YtckndnaohggmhaaC31
import Derived.Deep.OwnRows
import Derived.Deep.Cut
/- How far it is to go, reckoned in place: rounds, rows, and one place after another. Plain mathematics, and cells of a row of numbers. -/
namespace Go.Proofs.Ytckndnaohggmhaa
open Go.RowKit Go.Shelf

/-- A row of m numbers. -/
def outCells (f : Nat → Nat) (m : Nat) : Array Value := Array.ofFn (n := m) fun i => .int .i64 (f i.val)
theorem outCells_get (f : Nat → Nat) {m i : Nat} (h : i < m) : (outCells f m)[i]? = some (.int .i64 (f i)) := by
  unfold outCells
  rw [Array.getElem?_eq_getElem (by simpa using h)]
  simp
theorem outCells_congr {f g : Nat → Nat} {m : Nat} (h : ∀ i, i < m → f i = g i) : outCells f m = outCells g m := by
  unfold outCells
  congr 1
  funext i
  rw [h _ i.isLt]
def setOut (f : Nat → Nat) (k v : Nat) (i : Nat) : Nat := if i = k then v else f i
theorem outCells_set (f : Nat → Nat) {m k : Nat} (v : Nat) : (outCells f m).setIfInBounds k (.int .i64 v) = outCells (setOut f k v) m := by
  apply Array.ext_getElem?
  intro i
  rw [Array.getElem?_setIfInBounds]
  by_cases hi : i < m
  · rw [outCells_get _ hi, outCells_get _ hi]
    by_cases hk : k = i
    · subst hk
      simp [setOut, outCells, hi]
    · have hk' : ¬ i = k := fun e => hk e.symm
      simp [hk, hk', setOut]
  · have h1 : (outCells f m)[i]? = none := Array.getElem?_eq_none (by simpa [outCells] using Nat.le_of_not_lt hi)
    have h2 : (outCells (setOut f k v) m)[i]? = none := Array.getElem?_eq_none (by simpa [outCells] using Nat.le_of_not_lt hi)
    rw [h1, h2]
    by_cases hk : k = i
    · subst hk
      simp [outCells, hi]
    · simp [hk]

section
variable {H : Nat → Nat → Bool} {m t s i k : Nat}
/-- Whether one of the first k places is a step nearer. -/
def nearB (H : Nat → Nat → Bool) (m t s i k : Nat) : Bool := (List.range k).any fun j => decide (outs H m t s j = s + 1) && !decide (i = j) && H i j
theorem nearB_succ : nearB H m t s i (k + 1) = (nearB H m t s i k || (decide (outs H m t s k = s + 1) && !decide (i = k) && H i k)) := by
  unfold nearB
  rw [List.range_succ, List.any_append]
  simp
/-- The row when in round s + 1 the first i places are done. -/
def midF (H : Nat → Nat → Bool) (m t s i : Nat) (x : Nat) : Nat := if x < i then outs H m t (s + 1) x else outs H m t s x
/-- .. and of the place i the first k others. -/
def inF (H : Nat → Nat → Bool) (m t s i k : Nat) (x : Nat) : Nat := if x < i then outs H m t (s + 1) x else if x = i then (if outs H m t s i = 0 ∧ nearB H m t s i k = true then s + 2 else outs H m t s i) else outs H m t s x
theorem midF_start : midF H m t s 0 = outs H m t s := by funext x; simp [midF]
theorem midF_end {x : Nat} (h : x < m) : midF H m t s m x = outs H m t (s + 1) x := by simp [midF, h]
theorem inF_start : inF H m t s i 0 = midF H m t s i := by
  funext x
  unfold inF midF
  by_cases h1 : x < i
  · simp [h1]
  · by_cases h2 : x = i
    · subst h2; simp [nearB]
    · simp [h1, h2]
theorem inF_end : inF H m t s i m = midF H m t s (i + 1) := by
  funext x
  unfold inF midF
  by_cases h1 : x < i
  · rw [if_pos h1, if_pos (by omega)]
  · rw [if_neg h1]
    by_cases h2 : x = i
    · subst h2
      rw [if_pos rfl, if_pos (Nat.lt_succ_self x)]
      rfl
    · rw [if_neg h2, if_neg (by omega)]
theorem inF_at : inF H m t s i k i = if outs H m t s i = 0 ∧ nearB H m t s i k = true then s + 2 else outs H m t s i := by simp [inF]
theorem inF_skip (h : inF H m t s i k i ≠ 0) : inF H m t s i (k + 1) = inF H m t s i k := by
  funext x
  unfold inF
  by_cases h1 : x < i
  · simp [h1]
  · by_cases h2 : x = i
    · subst h2
      rw [inF_at] at h
      simp only [if_neg h1, if_true]
      by_cases h3 : outs H m t s x = 0
      · by_cases h4 : nearB H m t s x k = true
        · rw [if_pos ⟨h3, by rw [nearB_succ, h4]; rfl⟩, if_pos ⟨h3, h4⟩]
        · rw [if_neg (fun hh => h4 hh.2)] at h
          exact absurd h3 h
      · rw [if_neg (fun hh => h3 hh.1), if_neg (fun hh => h3 hh.1)]
    · simp [h1, h2]
theorem inF_zero (h : inF H m t s i k i = 0) : outs H m t s i = 0 ∧ nearB H m t s i k = false := by
  rw [inF_at] at h
  by_cases h3 : outs H m t s i = 0 ∧ nearB H m t s i k = true
  · rw [if_pos h3] at h; omega
  · rw [if_neg h3] at h
    exact ⟨h, by simpa [h] using h3⟩
theorem inF_far (h : inF H m t s i k i = 0) : inF H m t s i k k = s + 1 ↔ (outs H m t s k = s + 1 ∧ i ≠ k) := by
  obtain ⟨h0, hn⟩ := inF_zero h
  by_cases e : k = i
  · subst e
    rw [h]
    constructor
    · intro hh; omega
    · intro hh; exact absurd rfl hh.2
  · have hne : i ≠ k := fun e' => e e'.symm
    unfold inF
    by_cases h1 : k < i
    · rw [if_pos h1]
      rcases outs_succ (H := H) (n := m) (t := t) s k with h2 | h2
      · constructor
        · intro hh; omega
        · intro hh; omega
      · rw [h2.2]
        simp [hne]
    · rw [if_neg h1, if_neg e]
      simp [hne]
theorem inF_no (h : inF H m t s i k i = 0) (hk : inF H m t s i k k ≠ s + 1 ∨ H i k = false) : inF H m t s i (k + 1) = inF H m t s i k := by
  obtain ⟨h0, hn⟩ := inF_zero h
  have hn1 : nearB H m t s i (k + 1) = false := by
    rw [nearB_succ, hn]
    rcases hk with hk | hk
    · have : ¬ (outs H m t s k = s + 1 ∧ i ≠ k) := fun hh => hk ((inF_far h).2 hh)
      by_cases e1 : outs H m t s k = s + 1
      · have : i = k := by
          by_cases e : i = k
          · exact e
          · exact absurd ⟨e1, e⟩ this
        simp [this]
      · simp [e1]
    · simp [hk]
  funext x
  unfold inF
  rw [hn, hn1]
theorem inF_yes (h : inF H m t s i k i = 0) (hk : inF H m t s i k k = s + 1) (hH : H i k = true) : setOut (inF H m t s i k) i (s + 2) = inF H m t s i (k + 1) := by
  obtain ⟨h0, hn⟩ := inF_zero h
  obtain ⟨h1, h2⟩ := (inF_far h).1 hk
  have hn1 : nearB H m t s i (k + 1) = true := by
    rw [nearB_succ, hn]
    simp [h1, h2, hH]
  funext x
  unfold setOut
  by_cases e : x = i
  · subst e
    rw [if_pos rfl, inF_at, if_pos ⟨h0, hn1⟩]
  · rw [if_neg e]
    unfold inF
    simp [e]
end
end Go.Proofs.Ytckndnaohggmhaa

/- The reference's steps: the walk. -/
namespace Go.Proofs.Ytckndnaohggmhaa
open Go.RowKit Go.Shelf

theorem made_zero (m : Nat) : madeCells #[.int .i64 0] m = outCells (fun _ => 0) m := by
  apply Array.ext_getElem?
  intro i
  by_cases hi : i < m
  · rw [outCells_get _ hi]
    simp [madeCells, hi, Nat.mod_one]
  · rw [Array.getElem?_eq_none (by simpa [madeCells] using Nat.le_of_not_lt hi), Array.getElem?_eq_none (by simpa [outCells] using Nat.le_of_not_lt hi)]

theorem row_put {W : World} {g e k : Nat} {cs : Array Value} {v : Value} (h : W.heap[g]? = some (.cells cs e (0, 0))) : (W.setCell ⟨g, k, none⟩ v).heap[g]? = some (.cells (cs.setIfInBounds k v) e (0, 0)) := by
  simp [World.setCell, Array.getElem?_modify, h]

/-- A row of numbers that the call made. -/
def StepsPost (f : Nat → Nat) (m : Nat) (w : World) (e : Ending) (w' : World) : Prop :=
  ∃ g, e = .returned (.slice (some ⟨g, 0, none⟩) m m) ∧ Ext w w' ∧ w.heap.size ≤ g ∧ w'.heap[g]? = some (.cells (outCells f m) 3 (0, 0))

section
variable {w : World} {Wd : Int} {A : Option Addr} {n c : Nat} {A' : Option Addr} {n' c' : Nat} {ss : List (Int × Int)} {ds : List (Int × Int × Int)}

theorem table_holds {sure : Bool} {i k : Nat} (hi : i < ss.length + 2) (hk : k < ss.length + 2) (hik : i ≠ k) : holdsB Wd ss ds ((i : Int) - 2) ((k : Int) - 2) sure = tableOf Wd ss ds sure i k := by
  rw [tableOf_eq]
  unfold holdsB holdB
  simp [hi, hk, hik, Bool.and_comm]

set_option maxRecDepth 100000 in
set_option maxHeartbeats 4000000 in
theorem steps_ref (t : Nat) (sure : Bool) (h0 : bathErr Wd ss ds = 0) (hb : IsBath w w.heap.size A n c A' n' c' ss ds) (ht : t < ss.length + 2) (to : Int) (hto : to + 2 = t) :
    Calls Try.prog 90 #[.agg #[.int .i64 Wd, .slice A n c, .slice A' n' c'], .int .i64 to, .bool sure] w (StepsPost (outs (tableOf Wd ss ds sure) (ss.length + 2) t (ss.length + 1)) (ss.length + 2) w) := by
  have hX0 : BathAt (w.alloc (.cells #[.int .i64 Wd, .slice A n c, .slice A' n' c'] 25)) w.heap.size Wd A n c A' n' c' ss ds := BathAt.new hb
  have hE0 : Ext w (w.alloc (.cells #[.int .i64 Wd, .slice A n c, .slice A' n' c'] 25)) := ext_alloc w _
  have hn10 : n ≤ 10 := by have := (bath_ok h0).2.1.1; have := hb.nss; omega
  have cH : ∀ i k : Nat, i < n + 2 → k < n + 2 → i ≠ k → ∀ W : World, IsBath W W.heap.size A n c A' n' c' ss ds → Calls Try.prog 91 #[.agg #[.int .i64 Wd, .slice A n c, .slice A' n' c'], .int .i64 ((i : Int) - 2), .int .i64 ((k : Int) - 2), .bool sure] W fun e w' => e = .returned (.bool (tableOf Wd ss ds sure i k)) ∧ Ext W w' := fun i k hi hk hik W h => by
    have := holds_ref (Wd := Wd) ((i : Int) - 2) ((k : Int) - 2) sure (bath_few h0) h (by omega) (by omega) (by omega) (by omega) (by omega)
    rw [table_holds (by rw [← hb.nss]; exact hi) (by rw [← hb.nss]; exact hk) hik] at this
    exact this
  obtain ⟨T, hT⟩ : ∃ T, tableOf Wd ss ds sure = T := ⟨_, rfl⟩
  rw [hT] at cH ⊢
  obtain ⟨m, hm⟩ : ∃ m, ss.length + 2 = m := ⟨_, rfl⟩
  have hm1 : ss.length + 1 = m - 1 := by omega
  have hmn : n + 2 = m := by have := hb.nss; omega
  rw [hm] at ht ⊢
  rw [hm1]
  rw [hmn] at cH
  have hmk : ∀ W : World, (Instr.makeSlice 42 (.int .i64 ((n : Int) + 2)) (.int .i64 ((n : Int) + 2))).run Try.prog W = .ok (.slice (some ⟨W.heap.size, 0, none⟩) m m) (W.alloc (.cells (outCells (fun _ => 0) m) 3)) := fun W => by
    have := run_make_row' (P := Try.prog) 42 3 (.int .i64 0) 8 Try.underlying42 info3 rfl .i64 .i64 m (by omega) (by omega) W
    rw [made_zero] at this
    rw [show (n : Int) + 2 = (m : Int) from by omega]
    exact this
  have CH := Lib.hid cH
  have HMN := Lib.hid hmn
  have HN10 := Lib.hid hn10
  clear hT hm hm1 h0 hb cH hmn
  have htz : (t : Int) < (m : Int) := by omega
  have htb : (t : Int) ≤ 12 := by have := HMN.out; omega
  go_enter Try.func90, Try.ntmps90
  go_upto_region 2 with fail
  obtain ⟨w0, hw0⟩ : ∃ w0, w.alloc (.cells #[.int .i64 Wd, .slice A n c, .slice A' n' c'] 25) = w0 := ⟨_, rfl⟩
  rw [hw0] at hX0 hE0 ⊢
  clear hw0
  have HX := Lib.hid hX0
  have HE := Lib.hid hE0
  clear hX0 hE0
  go_upto_region 3 with fail
  clear hmk
  obtain ⟨w1, hw1, r1, e1⟩ : ∃ w1, w0.alloc (.cells (outCells (fun _ => 0) m) 3) = w1 ∧ w1.heap[w0.heap.size]? = some (.cells (outCells (fun _ => 0) m) 3 (0, 0)) ∧ Ext w0 w1 := ⟨_, rfl, row_last _ _ _ rfl, ext_alloc _ _⟩
  rw [hw1]
  clear hw1
  obtain ⟨g, hg⟩ : ∃ g, w0.heap.size = g := ⟨_, rfl⟩
  rw [hg] at r1 ⊢
  have HG := Lib.hid hg
  have k1 := (cell_of_row _ _ t _ _ _ r1).trans (outCells_get _ ht)
  have f1 : w1.frozen? ⟨g, t, none⟩ = false := by simp [World.frozen?, r1]
  have R1 := Lib.hid r1
  have E1 := Lib.hid e1
  clear hg r1 e1
  go_upto_region 4 with fail
  obtain ⟨w2, hw2, r2, e2⟩ : ∃ w2, w1.setCell ⟨g, t, none⟩ (.int .i64 1) = w2 ∧ w2.heap[g]? = some (.cells (outCells (outs T m t 0) m) 3 (0, 0)) ∧ Ext w0 w2 := ⟨_, rfl, by
    rw [row_put R1.out]
    have := outCells_set (fun _ => 0) (m := m) (k := t) 1
    rw [show ((1 : Nat) : Int) = 1 from rfl] at this
    rw [this]
    rfl, Below.setCell E1.out (p := ⟨g, t, none⟩) (by show w0.heap.size ≤ g; rw [HG.out]; exact Nat.le_refl _) _⟩
  rw [hw2]
  have R2 := Lib.hid r2
  have E2 := Lib.hid e2
  clear hw2 r2 e2 k1 f1 R1 E1
  have hg0 : w0.heap.size ≤ g := by have := HG.out; omega
  have hm2 : 2 ≤ m := by have := HMN.out; omega
  have hm12 : m ≤ 12 := by have := HMN.out; have := HN10.out; omega
  have hnm : (n : Int) + 2 = (m : Int) := by have := HMN.out; omega
  rw [hnm]
  clear hnm
  go_wp2
  go_loopw [9, 10, 11] (fun z _ _ wr => ∃ s : Nat, s + 1 ≤ m ∧ z = .int .i64 ((s : Int) + 1) ∧ Hid (Ext w0 wr) ∧ Hid (wr.heap[g]? = some (.cells (outCells (outs T m t s) m) 3 (0, 0)))) (fun z _ _ _ => m - (intOf z).toNat)
  case atStart => exact ⟨0, by omega, rfl, E2, R2⟩
  case round =>
    obtain ⟨s, hs, rfl, hB, hR⟩ := hrel
    by_cases hlt : s + 1 < m
    · have hltz : (s : Int) + 1 < (m : Int) := by omega
      go_wp2
      go_loopw [10, 11] (fun z _ wr => ∃ i : Nat, i ≤ m ∧ z = .int .i64 (i : Int) ∧ Hid (Ext w0 wr) ∧ Hid (wr.heap[g]? = some (.cells (outCells (midF T m t s i) m) 3 (0, 0)))) (fun z _ _ => m - (intOf z).toNat)
      case atStart => exact ⟨0, by omega, rfl, hB, by rw [midF_start]; exact hR⟩
      case round =>
        clear hB hR
        obtain ⟨i, hi, rfl, hB, hR⟩ := hrel
        by_cases hlti : i < m
        · have hltiz : (i : Int) < (m : Int) := by omega
          go_wp2
          go_loopw [11] (fun z wr => ∃ k : Nat, k ≤ m ∧ z = .int .i64 (k : Int) ∧ Hid (Ext w0 wr) ∧ Hid (wr.heap[g]? = some (.cells (outCells (inF T m t s i k) m) 3 (0, 0)))) (fun z _ => m - (intOf z).toNat)
          case atStart => exact ⟨0, by omega, rfl, hB, by rw [inF_start]; exact hR⟩
          case round =>
            clear hB hR
            obtain ⟨k, hk, rfl, hB, hR⟩ := hrel
            by_cases hltk : k < m
            · have hltkz : (k : Int) < (m : Int) := by omega
              have hx := HX.out.ext hB.out
              obtain ⟨q0, q1, q2⟩ := hx.cells
              have hcI : wr.cell? ⟨g, i, none⟩ = some (.int .i64 (inF T m t s i k i)) := (cell_of_row _ _ _ _ _ _ hR.out).trans (outCells_get _ hlti)
              have hcK : wr.cell? ⟨g, k, none⟩ = some (.int .i64 (inF T m t s i k k)) := (cell_of_row _ _ _ _ _ _ hR.out).trans (outCells_get _ hltk)
              obtain ⟨u, hu⟩ : ∃ u : Int, ((inF T m t s i k i : Nat) : Int) = u := ⟨_, rfl⟩
              obtain ⟨v, hv⟩ : ∃ v : Int, ((inF T m t s i k k : Nat) : Int) = v := ⟨_, rfl⟩
              rw [hu] at hcI
              rw [hv] at hcK
              have HU := Lib.hid hu
              have HV := Lib.hid hv
              clear hu hv
              by_cases hu0 : u = 0
              · have hz : inF T m t s i k i = 0 := by have := HU.out; omega
                have HZ := Lib.hid hz
                clear hz
                subst hu0
                by_cases hvs : v = (s : Int) + 1
                · have hv2 : (v == (s : Int) + 1) = true := by simp [hvs]
                  have hk1 : inF T m t s i k k = s + 1 := by have := HV.out; omega
                  have hik : i ≠ k := ((inF_far HZ.out).1 hk1).2
                  have hikz : ((i : Int) != (k : Int)) = true := by simp; omega
                  have hikn : (i != k) = true := by simpa using hik
                  have cC := CH.out i k hlti hltk hik wr hx.bath
                  have HK := Lib.hid hk1
                  clear hk1 hik hvs hx
                  cases hT : T i k with
                  | true =>
                    rw [hT] at cC
                    have hN : Hid (setOut (inF T m t s i k) i (s + 2) = inF T m t s i (k + 1)) := Lib.hid (inF_yes HZ.out HK.out hT)
                    clear hT
                    go_wp2_with fail
                    refine cC.mono ?_
                    rintro e w3 ⟨rfl, e3⟩
                    have r3 := row_ext hR.out e3
                    have f3 : w3.frozen? ⟨g, i, none⟩ = false := by simp [World.frozen?, r3]
                    have c3 : w3.cell? ⟨g, i, none⟩ = some (.int .i64 (inF T m t s i k i)) := (cell_of_row _ _ _ _ _ _ r3).trans (outCells_get _ hlti)
                    have hE3 := Lib.hid (Below.setCell (hB.out.trans e3) (p := ⟨g, i, none⟩) hg0 (.int .i64 ((s : Int) + 1 + 1)))
                    have hR3 : Hid ((w3.setCell ⟨g, i, none⟩ (.int .i64 ((s : Int) + 1 + 1))).heap[g]? = some (.cells (outCells (inF T m t s i (k + 1)) m) 3 (0, 0))) := Lib.hid (by
                      rw [row_put r3, ← hN.out, ← outCells_set, show ((s + 2 : Nat) : Int) = (s : Int) + 1 + 1 from by omega])
                    clear e3 r3 hB hR cC q0 q1 q2 hcI hcK
                    go_wp2
                    go_roundw
                    case measure => simp [intOf]; omega
                    case rel => exact ⟨k + 1, by omega, by go_num, hE3, hR3⟩
                  | false =>
                    rw [hT] at cC
                    have hN : Hid (inF T m t s i (k + 1) = inF T m t s i k) := Lib.hid (inF_no HZ.out (.inr hT))
                    clear hT
                    go_wp2_with fail
                    refine cC.mono ?_
                    rintro e w3 ⟨rfl, e3⟩
                    have hE3 := Lib.hid (hB.out.trans e3)
                    have hR3 : Hid (w3.heap[g]? = some (.cells (outCells (inF T m t s i (k + 1)) m) 3 (0, 0))) := Lib.hid (by
                      rw [hN.out]
                      exact row_ext hR.out e3)
                    clear e3 hB hR cC q0 q1 q2 hcI hcK
                    go_wp2
                    go_roundw
                    case measure => simp [intOf]; omega
                    case rel => exact ⟨k + 1, by omega, by go_num, hE3, hR3⟩
                · have hv2 : (v == (s : Int) + 1) = false := by simp [hvs]
                  have hN : Hid (inF T m t s i (k + 1) = inF T m t s i k) := Lib.hid (inF_no HZ.out (.inl (by have := HV.out; omega)))
                  clear hvs hx
                  go_wp2
                  go_roundw
                  case measure => simp [intOf]; omega
                  case rel => exact ⟨k + 1, by omega, by go_num, hB, by rw [hN.out]; exact hR⟩
              · have hu2 : (u == 0) = false := by simp [hu0]
                have hN : Hid (inF T m t s i (k + 1) = inF T m t s i k) := Lib.hid (inF_skip (by have := HU.out; omega))
                clear hu0 hx
                go_wp2
                go_roundw
                case measure => simp [intOf]; omega
                case rel => exact ⟨k + 1, by omega, by go_num, hB, by rw [hN.out]; exact hR⟩
            · have hltkz : ¬ (k : Int) < (m : Int) := by omega
              obtain rfl : k = m := by omega
              go_wp2
              go_roundw
              case measure => simp [intOf]; omega
              case rel => exact ⟨i + 1, by omega, by go_num, hB, by rw [← inF_end]; exact hR⟩
        · have hltiz : ¬ (i : Int) < (m : Int) := by omega
          obtain rfl : i = m := by omega
          have hR2 : Hid (wr.heap[g]? = some (.cells (outCells (outs T i t (s + 1)) i) 3 (0, 0))) := Lib.hid (by rw [hR.out, outCells_congr (fun x hx => midF_end hx)])
          clear hR
          go_wp2
          go_roundw
          case measure => simp [intOf]; omega
          case rel => exact ⟨s + 1, by omega, by go_num, hB, hR2⟩
    · have hltz : ¬ (s : Int) + 1 < (m : Int) := by omega
      obtain rfl : s = m - 1 := by omega
      go_wp2
      go_ret
      exact ⟨g, rfl, HE.out.trans hB.out, Nat.le_trans HE.out.size hg0, hR.out⟩
end
end Go.Proofs.Ytckndnaohggmhaa

/- The reference's joined: all places to which there is a way. -/
namespace Go.Proofs.Ytckndnaohggmhaa
open Go.RowKit Go.Shelf

section
variable {w : World} {Wd : Int} {A : Option Addr} {n c : Nat} {A' : Option Addr} {n' c' : Nat} {ss : List (Int × Int)} {ds : List (Int × Int × Int)}

theorem goesC_at (H : Nat → Nat → Bool) (m t i : Nat) : goesC H m t i = decide (0 < outs H m t (m - 1) i) := by
  unfold goesC
  simp [Nat.pos_iff_ne_zero]

set_option maxRecDepth 100000 in
set_option maxHeartbeats 2000000 in
theorem joined_ref (t : Nat) (sure : Bool) (h0 : bathErr Wd ss ds = 0) (hb : IsBath w w.heap.size A n c A' n' c' ss ds) (ht : t < ss.length + 2) (one : Int) (hone : one + 2 = t) :
    Calls Try.prog 99 #[.agg #[.int .i64 Wd, .slice A n c, .slice A' n' c'], .int .i64 one, .bool sure] w (ListPost (listTo (goesC (tableOf Wd ss ds sure) (ss.length + 2) t) (ss.length + 2)) w) := by
  have hX0 : BathAt (w.alloc (.cells #[.int .i64 Wd, .slice A n c, .slice A' n' c'] 25)) w.heap.size Wd A n c A' n' c' ss ds := BathAt.new hb
  have hE0 : Ext w (w.alloc (.cells #[.int .i64 Wd, .slice A n c, .slice A' n' c'] 25)) := ext_alloc w _
  have hn10 : n ≤ 10 := by have := (bath_ok h0).2.1.1; have := hb.nss; omega
  have cS : ∀ W : World, IsBath W W.heap.size A n c A' n' c' ss ds → _ := fun W h => steps_ref (Wd := Wd) t sure h0 h ht one hone
  obtain ⟨H, hH⟩ : ∃ H, tableOf Wd ss ds sure = H := ⟨_, rfl⟩
  obtain ⟨m, hm⟩ : ∃ m, ss.length + 2 = m := ⟨_, rfl⟩
  have hm1 : ss.length + 1 = m - 1 := by omega
  have hmn : m = n + 2 := by have := hb.nss; omega
  rw [hH, hm, hm1] at cS
  rw [hH, hm]
  obtain ⟨i0, hi, hz0, hz1, hz2⟩ := info_parts info3
  have HI := Lib.hid hi
  have HZ0 := Lib.hid hz0
  have HZ1 := Lib.hid hz1
  have HZ2 := Lib.hid hz2
  have HMN := Lib.hid hmn
  clear hi hz0 hz1 hz2 hH hm hm1 hmn h0 hb ht hone
  go_enter Try.func99, Try.ntmps99
  go_wp2_with fail
  refine (cS _ hX0.bath).mono ?_
  rintro e w1 ⟨g, rfl, e1, hg, r1⟩
  have HX := Lib.hid (hX0.ext e1)
  have HE := Lib.hid (hE0.trans e1)
  have R1 := Lib.hid r1
  have hgl : g < w1.heap.size := (Array.getElem?_eq_some_iff.1 r1).1
  clear hX0 hE0 e1 r1 cS hg
  have hbase : w.heap.size ≤ w1.heap.size := HE.out.size
  go_wp2
  go_loopw [8, 9] (fun v p wr => ∃ k : Nat, k ≤ m ∧ p = .int .i64 ((k : Int) - 2) ∧ Hid (Ext w1 wr) ∧ Hid (MadeInts w1.heap.size (listTo (goesC H m t) k) wr v)) (fun _ p _ => m - (intOf p + 2).toNat)
  case atStart => exact ⟨0, Nat.zero_le _, rfl, Lib.hid (Ext.refl _), Lib.hid ⟨World.ownsRow_nil _ _ _ _, fun _ => rfl⟩⟩
  case round =>
    obtain ⟨k, hk, rfl, hB, hO⟩ := hrel
    have hsz := hB.out.size
    obtain ⟨q0, q1, q2⟩ := (HX.out.ext hB.out).cells
    by_cases hlt : k < m
    · have hltz : (k : Int) - 2 < (n : Int) := by have := HMN.out; omega
      have hkz : (k : Int) < (m : Int) := by omega
      have hk2 : (k : Int) - 2 + 2 = (k : Int) := by omega
      have hs := listTo_succ (goesC H m t) k
      have hl := listTo_length (goesC H m t) k
      have hc : wr.cell? ⟨g, k, none⟩ = some (.int .i64 (outs H m t (m - 1) k)) := (cell_of_row _ _ _ _ _ _ (row_ext R1.out hB.out)).trans (outCells_get _ hlt)
      rw [goesC_at] at hs
      obtain ⟨x, hx⟩ : ∃ x, outs H m t (m - 1) k = x := ⟨_, rfl⟩
      rw [hx] at hc hs
      clear hx
      by_cases h0 : 0 < x
      · have h0z : (0 : Int) < (x : Int) := by omega
        rw [decide_eq_true h0, if_pos rfl] at hs
        have HS := Lib.hid hs
        clear hs
        go_wp2_with (first | (at_builtin; refine wpList_append_own _ rfl (.tmp 27) (.tmp 29) 42 rfl w1.heap.size 3 i0 (.int .i64 0) 1 8 Try.underlying42 HI.out HZ0.out HZ1.out HZ2.out rfl (by decide) _ (listTo (goesC H m t) k).length _ rfl (hO.out.1.alloc _) ⟨wr.heap.size, 0, none⟩ 1 1 [.int .i64 ((k : Int) - 2)] rfl rfl (cell_one_new _ _ _) (one_cell' _) ?c3 ?c4 ?c5 ?_))
        case c3 => unfold maxLen; omega
        case c4 => omega
        case c5 => simp; omega
        · intro v' w2 hown' hgrow _
          have hB1 : Hid (Ext w1 w2) := Lib.hid ((hB.out.alloc hsz (.cells #[.int .i64 ((k : Int) - 2)] 3)).grown hgrow (by simp; omega) (fun b e => (hO.out.1.lt b e).1))
          have hO1 : Hid (MadeInts w1.heap.size (listTo (goesC H m t) (k + 1)) w2 v') := Lib.hid ⟨by
            rw [HS.out, List.length_append, List.map_append]
            simpa using hown', fun e => by rw [HS.out] at e; simp at e⟩
          clear hown' hgrow hO hB
          go_wp2
          go_roundw
          case measure => simp [intOf]; omega
          case rel => exact ⟨k + 1, by omega, by go_num, hB1, hO1⟩
      · have h0z : ¬ (0 : Int) < (x : Int) := by omega
        rw [decide_eq_false h0, if_neg (by decide), List.append_nil] at hs
        have HS := Lib.hid hs
        clear hs
        go_wp2
        go_roundw
        case measure => simp [intOf]; omega
        case rel => exact ⟨k + 1, by omega, by go_num, hB, by rw [HS.out]; exact hO⟩
    · have hltz : ¬ (k : Int) - 2 < (n : Int) := by have := HMN.out; omega
      obtain rfl : k = m := by omega
      go_wp2
      go_ret
      exact ⟨_, rfl, ⟨owns_mono hO.out.1 hbase, hO.out.2⟩, HE.out.trans hB.out⟩
end
end Go.Proofs.Ytckndnaohggmhaa

/- The reference's Way: its next place, one place after another. Plain mathematics, and slices that the call makes. -/
namespace Go.Proofs.Ytckndnaohggmhaa
open Go.RowKit Go.Shelf

/-- The first one of the first k places that is good; -3: none. -/
def nextTo (P : Nat → Bool) (k : Nat) : Int := match (List.range k).find? P with | some j => (j : Int) - 2 | none => -3
theorem nextTo_zero (P : Nat → Bool) : nextTo P 0 = -3 := rfl
theorem nextTo_bd (P : Nat → Bool) (k : Nat) : -3 ≤ nextTo P k ∧ nextTo P k ≤ (k : Int) - 3 := by
  unfold nextTo
  cases h : (List.range k).find? P with
  | none => simp; omega
  | some j =>
    have := List.mem_range.1 (List.mem_of_find?_eq_some h)
    simp only []
    omega
theorem find_succ (P : Nat → Bool) (k : Nat) : (List.range (k + 1)).find? P = ((List.range k).find? P).or (if P k then some k else none) := by
  rw [List.range_succ, List.find?_append]
  congr 1
  cases h : P k <;> simp [h]
theorem nextTo_found {P : Nat → Bool} {k : Nat} (h : nextTo P k ≠ -3) : nextTo P (k + 1) = nextTo P k := by
  unfold nextTo at h ⊢
  rw [find_succ]
  cases hf : (List.range k).find? P with
  | none => rw [hf] at h; exact absurd rfl h
  | some j => rfl
theorem nextTo_yes {P : Nat → Bool} {k : Nat} (h : nextTo P k = -3) (hP : P k = true) : nextTo P (k + 1) = (k : Int) - 2 := by
  unfold nextTo at h ⊢
  rw [find_succ]
  cases hf : (List.range k).find? P with
  | none => simp [hP]
  | some j =>
    rw [hf] at h
    simp only [] at h
    omega
theorem nextTo_no {P : Nat → Bool} {k : Nat} (hP : P k = false) : nextTo P (k + 1) = nextTo P k := by
  unfold nextTo
  rw [find_succ]
  simp [hP]
/-- What makes a place the next one. -/
def nearP (H : Nat → Nat → Bool) (O : Nat → Nat) (i p : Nat) : Bool := !decide (p = i) && decide (O p + 1 = O i) && !decide (O p = 0) && H i p
theorem nextTo_end {H : Nat → Nat → Bool} {m : Nat} {O : Nat → Nat} {i j : Nat} (hj : j < m) (hP : nearP H O i j = true) : nextTo (nearP H O i) m = ((nextOf H m O i : Nat) : Int) - 2 ∧ nextOf H m O i < m ∧ nearP H O i (nextOf H m O i) = true := by
  obtain ⟨k, hk, _, hk2, hk3⟩ := find_range hj hP
  have e : nextOf H m O i = k := by
    unfold nextOf
    have hk' : (List.range m).find? (fun p => !decide (p = i) && decide (O p + 1 = O i) && !decide (O p = 0) && H i p) = some k := hk
    rw [hk']
    rfl
  rw [e]
  refine ⟨?_, hk3, hk2⟩
  unfold nextTo
  rw [hk]

section
variable {H : Nat → Nat → Bool} {m t : Nat}
/-- What has been made of a way, the place i the last one. -/
structure OnWay (H : Nat → Nat → Bool) (m t : Nat) (whole pre : List Nat) (i : Nat) : Prop where
  lt : i < m
  some : outs H m t (m - 1) i ≠ 0
  all : whole = pre ++ goFrom H m (outs H m t (m - 1)) (outs H m t (m - 1) i) i
  long : pre.length + outs H m t (m - 1) i ≤ 12
theorem OnWay.start (hm : m ≤ 12) {s : Nat} (hs : s < m) (h : outs H m t (m - 1) s ≠ 0) : OnWay H m t (wayOf H m s t) [] s :=
  ⟨hs, h, rfl, by have := outs_le (H := H) (n := m) (t := t) (m - 1) s; simp; omega⟩
theorem OnWay.stop {whole pre : List Nat} (h : OnWay H m t whole pre t) : whole = pre ++ [t] := by
  have := h.all
  rw [outs_t] at this
  exact this
theorem OnWay.more {whole pre : List Nat} {i : Nat} (h : OnWay H m t whole pre i) (hit : i ≠ t) : nextTo (nearP H (outs H m t (m - 1)) i) m = ((nextOf H m (outs H m t (m - 1)) i : Nat) : Int) - 2 ∧ OnWay H m t whole (pre ++ [i]) (nextOf H m (outs H m t (m - 1)) i) ∧ outs H m t (m - 1) (nextOf H m (outs H m t (m - 1)) i) < outs H m t (m - 1) i := by
  have hb : ∃ j, j < m ∧ i ≠ j ∧ H i j = true ∧ outs H m t (m - 1) j ≠ 0 ∧ outs H m t (m - 1) i = outs H m t (m - 1) j + 1 := by
    rcases outs_back (H := H) (n := m) (t := t) (m - 1) i h.some with h3 | h3
    · exact absurd h3.1 hit
    · exact h3
  obtain ⟨j, hj, h1, h2, h3, h4⟩ := hb
  have hP : nearP H (outs H m t (m - 1)) i j = true := by
    simp [nearP, h2, h4]
    exact ⟨fun e => h1 e.symm, h3⟩
  obtain ⟨a, b, c⟩ := nextTo_end hj hP
  simp only [nearP, Bool.and_eq_true, decide_eq_true_eq, Bool.not_eq_true', decide_eq_false_iff_not] at c
  refine ⟨a, ⟨b, c.1.2, ?_, ?_⟩, by omega⟩
  · have ha := h.all
    rw [← c.1.1.2] at ha
    rw [ha, List.append_assoc]
    congr 1
    obtain ⟨d, hd⟩ : ∃ d, outs H m t (m - 1) (nextOf H m (outs H m t (m - 1)) i) = d + 1 := ⟨outs H m t (m - 1) (nextOf H m (outs H m t (m - 1)) i) - 1, by have := c.1.2; omega⟩
    rw [hd]
    rfl
  · have := h.long
    simp only [List.length_append, List.length_cons, List.length_nil]
    omega
end

theorem MadeInts.ext {base : Nat} {xs : List Int} {W W' : World} {v : Value} (h : MadeInts base xs W v) (e : Ext W W') : MadeInts base xs W' v := ⟨owns_below h.1 e, h.2⟩
theorem made_one (W : World) (x : Int) {base : Nat} (hb : base ≤ W.heap.size) : MadeInts base [x] (W.alloc (.cells #[.int .i64 x] 3)) (.slice (some ⟨W.heap.size, 0, none⟩) 1 1) :=
  ⟨⟨rfl, .inr ⟨W.heap.size, 1, #[.int .i64 x], rfl, hb, row_last _ _ _ rfl, Nat.le_refl _, (by unfold maxLen; omega), rfl, rfl⟩⟩, fun e => by cases e⟩
theorem nums_snoc (l : List Nat) (i : Nat) : nums (l ++ [i]) = nums l ++ [(i : Int) - 2] := by simp [nums]
end Go.Proofs.Ytckndnaohggmhaa
