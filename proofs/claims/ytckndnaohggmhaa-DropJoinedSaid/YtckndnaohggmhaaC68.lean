/- Texts of the package drop, joined: JoinTold. -/
import Derived.Test.YtckndnaohggmhaaC46
import Derived.Test.YtckndnaohggmhaaC67
/- DropJoined: the groups of a bath: plain mathematics. -/
namespace Go.Proofs.Ytckndnaohggmhaa

section
variable {Wd : Int} {ss : List (Int × Int)} {ds : List (Int × Int × Int)} {sure : Bool}

/-- Whether one of the first drops is on a spot. -/
def onTo (ds : List (Int × Int × Int)) (v : Int) (k : Nat) : Bool := (ds.take k).any fun d => decide (d.1 = v)
theorem onTo_succ (ds : List (Int × Int × Int)) (v : Int) {k : Nat} (hk : k < ds.length) : onTo ds v (k + 1) = (onTo ds v k || decide ((ds.getD k (0, 0, 0)).1 = v)) := by
  unfold onTo
  rw [List.take_succ_eq_append_getElem hk, List.any_append]
  simp [List.getElem?_eq_getElem hk]
theorem sizes_on (hd : ∀ d ∈ ds, 1 ≤ d.2.1 ∧ d.2.1 ≤ d.2.2 ∧ d.2.2 ≤ 10000) (i : Nat) : ∀ k, k ≤ ds.length → (onTo ds i k = true → 1 ≤ (sizes (ds.take k) i).1) ∧ (onTo ds i k = false → sizes (ds.take k) i = (0, 0))
  | 0, _ => by simp [onTo, sizes]
  | k + 1, hk => by
    obtain ⟨h1, h2⟩ := sizes_on hd i k (by omega)
    have hkl : k < ds.length := by omega
    have hb := hd _ (List.getElem_mem hkl)
    have hp := sizes_bd (ds.take k) (fun d hm => hd d (List.mem_of_mem_take hm)) i
    rw [onTo_succ ds _ hkl, sizes_snoc _ _ hkl]
    have e : ds.getD k (0, 0, 0) = ds[k] := by simp [List.getElem?_eq_getElem hkl]
    rw [e]
    unfold addTo
    by_cases hs : ds[k].1 = (i : Int)
    · rw [if_pos hs]
      simp [hs]
      omega
    · rw [if_neg hs]
      simp only [hs, decide_false, Bool.or_false]
      exact ⟨h1, h2⟩
/-- A spot is there just if a drop is on it. -/
theorem there_on (h0 : bathErr Wd ss ds = 0) (x : Nat) : thereB (sizes ds) x = (decide ((x : Int) - 2 < 0) || onTo ds ((x : Int) - 2) ds.length) := by
  unfold thereB
  by_cases hx : x < 2
  · have h1 : (x : Int) - 2 < 0 := by omega
    simp [hx, h1]
  · have h1 : ¬ (x : Int) - 2 < 0 := by omega
    obtain ⟨i, rfl⟩ : ∃ i, x = i + 2 := ⟨x - 2, by omega⟩
    have e : ((i + 2 : Nat) : Int) - 2 = (i : Int) := by omega
    have := sizes_on (by have := drops_bd h0 ds.length; rwa [List.take_length] at this) i ds.length (Nat.le_refl _)
    rw [List.take_length] at this
    rw [e, show i + 2 - 2 = i from by omega]
    have h3 : ¬ (i : Int) < 0 := by omega
    cases ho : onTo ds i ds.length with
    | true => have := this.1 ho; simp [hx, h3]; omega
    | false => have := this.2 ho; rw [this]; simp [hx, h3]

theorem meet_there (h0 : bathErr Wd ss ds = 0) (sel : Nat → Int) (one two : Int) (h1 : -2 ≤ one) (h1' : one < (ss.length : Int)) (h2 : -2 ≤ two) (h2' : two < (ss.length : Int)) (hm : meetB Wd ss sel one two = true) : (one < 0 ∨ 0 < sel one.toNat ∨ sel one.toNat < 0) ∧ (two < 0 ∨ 0 < sel two.toNat ∨ sel two.toNat < 0) := by
  have key : ∀ a b : Int, min a b = a → max a b = b → -2 ≤ a → b < (ss.length : Int) → meetB Wd ss sel a b = true → (a < 0 ∨ 0 < sel a.toNat ∨ sel a.toNat < 0) ∧ (b < 0 ∨ 0 < sel b.toNat ∨ sel b.toNat < 0) := by
    intro a b hmin hmax ha hb hm
    unfold meetB at hm
    rw [hmin, hmax] at hm
    split at hm
    · cases hm
    · rename_i hb0
      split at hm
      · rename_i ha0
        refine ⟨.inl ha0, ?_⟩
        obtain ⟨X, Y, hXY⟩ : ∃ X Y, ss.getD b.toNat (0, 0) = (X, Y) := ⟨_, _, rfl⟩
        have hbd := spot_bd (bath_few h0) (i := b.toNat) (by omega) hXY
        rw [hXY, decide_eq_true_eq] at hm
        simp only [] at hm
        split at hm
        · have := Int.mul_le_mul (a := 1) (b := 1) (c := X) (d := X) (by omega) (by omega) (by omega) (by omega)
          omega
        · have := Int.mul_le_mul (a := 1) (b := 1) (c := Wd - X) (d := Wd - X) (by omega) (by omega) (by omega) (by omega)
          omega
      · rename_i ha0
        unfold reachB at hm
        split at hm
        · cases hm
        · rename_i hz
          omega
  rcases Int.le_total one two with h | h
  · exact key one two (by omega) (by omega) h1 h2' hm
  · rw [meetB_comm] at hm
    exact (key two one (by omega) (by omega) h2 h1' hm).symm

theorem hold_there (h0 : bathErr Wd ss ds = 0) {i j : Nat} (h : tableOf Wd ss ds sure i j = true) : thereB (sizes ds) i = true ∧ thereB (sizes ds) j = true := by
  have hl := tableOf_lt i j h
  have hk : kindOf Wd ss (sizes ds) ((i : Int) - 2) ((j : Int) - 2) ≠ 0 := by
    rw [tableOf_eq] at h
    simp only [holdB, Bool.and_eq_true, Bool.or_eq_true, decide_eq_true_eq] at h
    have := h.2.2
    omega
  have hd : ∀ d ∈ ds, 1 ≤ d.2.1 ∧ d.2.1 ≤ d.2.2 ∧ d.2.2 ≤ 10000 := by have := drops_bd h0 ds.length; rwa [List.take_length] at this
  have hm : meetB Wd ss (fun i => (sizes ds i).2) ((i : Int) - 2) ((j : Int) - 2) = true := by
    cases hq : meetB Wd ss (fun i => (sizes ds i).2) ((i : Int) - 2) ((j : Int) - 2) with
    | true => rfl
    | false =>
      exfalso
      refine hk ((kindOf_zero Wd ss (sizes ds) _ _).2 ⟨?_, hq⟩)
      cases hp : meetB Wd ss (fun i => (sizes ds i).1) ((i : Int) - 2) ((j : Int) - 2) with
      | false => rfl
      | true =>
        rw [meetB_mono Wd ss _ (fun i => (sizes ds i).2) (fun i => (sizes_bd ds hd i).1) (fun i => (sizes_bd ds hd i).2.1) _ _ hp] at hq
        cases hq
  obtain ⟨a, b⟩ := meet_there h0 _ _ _ (by omega) (by omega) (by omega) (by omega) hm
  have key : ∀ x : Nat, ((x : Int) - 2 < 0 ∨ 0 < (sizes ds ((x : Int) - 2).toNat).2 ∨ (sizes ds ((x : Int) - 2).toNat).2 < 0) → thereB (sizes ds) x = true := fun x hx => by
    unfold thereB
    by_cases hx2 : x < 2
    · simp [hx2]
    · have e : ((x : Int) - 2).toNat = x - 2 := by omega
      rw [e] at hx
      have hs := sizes_on hd (x - 2) ds.length (Nat.le_refl _)
      rw [List.take_length] at hs
      cases ho : onTo ds ((x - 2 : Nat) : Int) ds.length with
      | true => have := hs.1 ho; simp; omega
      | false => have := hs.2 ho; rw [this] at hx; simp at hx; omega
  exact ⟨key i a, key j b⟩

theorem bath_eqv (h0 : bathErr Wd ss ds = 0) : Eqv (goesC (tableOf Wd ss ds sure) (ss.length + 2)) (thereB (sizes ds)) (ss.length + 2) := by
  have hl := (bath_ok h0).2.1.1
  have hg : ∀ x, x < ss.length + 2 → ∀ y, goesC (tableOf Wd ss ds sure) (ss.length + 2) x y = true ↔ Way (tableOf Wd ss ds sure) x y := fun x hx y => by
    rw [← goesB_goesC (n := ss.length + 2) (H := tableOf Wd ss ds sure) (k := x) (by omega) (by omega) tableOf_lt tableOf_sym hx, goesB_iff]
  have lt : ∀ x y, x < ss.length + 2 → Way (tableOf Wd ss ds sure) x y → y < ss.length + 2 := fun x y hx hw => by
    cases hw with
    | here => exact hx
    | more _ _ hH => exact (tableOf_lt _ _ hH).2.1
  refine ⟨by omega, fun x hx => (hg x hx x).2 .here, fun x y hx h => ?_, fun x y z hx h h' => ?_, fun x y hx h => lt x y hx ((hg x hx y).1 h), fun x y hx h hT => ?_⟩
  · have hw := (hg x hx y).1 h
    exact (hg y (lt x y hx hw) x).2 (hw.symm tableOf_sym (by omega))
  · have hw := (hg x hx y).1 h
    exact (hg x hx z).2 (hw.trans ((hg y (lt x y hx hw) z).1 h'))
  · cases (hg x hx y).1 h with
    | here => exact hT
    | more _ _ hH => exact (hold_there h0 hH).2
theorem groups_gs : groupsTo (ss.length + 2) (sizes ds) (tableOf Wd ss ds sure) (ss.length + 2) = gsTo (goesC (tableOf Wd ss ds sure) (ss.length + 2)) (thereB (sizes ds)) (ss.length + 2) := rfl

theorem way_wider {x y : Nat} (h : Way (tableOf Wd ss ds true) x y) : Way (tableOf Wd ss ds false) x y := by
  induction h with
  | here => exact .here
  | more _ hj hH ih =>
    refine .more ih hj ?_
    rw [tableOf_eq] at hH ⊢
    simp only [holdB, Bool.and_eq_true, Bool.or_eq_true, decide_eq_true_eq, Bool.not_true, Bool.false_eq_true, and_false, or_false, Bool.not_false, and_true] at hH ⊢
    exact ⟨hH.1, hH.2.1, .inl hH.2.2⟩
theorem goes_wider (h0 : bathErr Wd ss ds = 0) {x y : Nat} (hx : x < ss.length + 2) (h : goesC (tableOf Wd ss ds true) (ss.length + 2) x y = true) : goesC (tableOf Wd ss ds false) (ss.length + 2) x y = true := by
  have hl := (bath_ok h0).2.1.1
  rw [← goesB_goesC (n := ss.length + 2) (k := x) (by omega) (by omega) tableOf_lt tableOf_sym hx, goesB_iff] at h ⊢
  exact way_wider h
/-- Way finds one just if both places have one group. -/
theorem outs_goes {one two : Int} (he : forErr Wd ss ds one two = 0) : outs (tableOf Wd ss ds sure) (ss.length + 2) (two + 2).toNat (ss.length + 1) (one + 2).toNat ≠ 0 ↔ goesC (tableOf Wd ss ds sure) (ss.length + 2) (one + 2).toNat (two + 2).toNat = true := by
  obtain ⟨h0, hne, h2, h3⟩ := forErr_ok he
  have hl := (bath_ok h0).2.1.1
  rw [way_outs he, goesB_goesC (n := ss.length + 2) (H := tableOf Wd ss ds sure) (k := (one + 2).toNat) (by omega) (by omega) tableOf_lt tableOf_sym (by omega)]
theorem no_way {one two : Int} (he : forErr Wd ss ds one two = 0) (h : thereB (sizes ds) (one + 2).toNat = false ∨ thereB (sizes ds) (two + 2).toNat = false) : outs (tableOf Wd ss ds sure) (ss.length + 2) (two + 2).toNat (ss.length + 1) (one + 2).toNat = 0 := by
  obtain ⟨h0, hne, h2, h3⟩ := forErr_ok he
  refine Decidable.byContradiction fun ho => ?_
  have hg := (way_outs he).1 ho
  rw [goesB_iff] at hg
  have hlast : ∀ s t : Nat, s ≠ t → Way (tableOf Wd ss ds sure) s t → thereB (sizes ds) t = true := fun s t hst hw => by
    cases hw with
    | here => exact absurd rfl hst
    | more _ _ hH => exact (hold_there h0 hH).2
  have hl := (bath_ok h0).2.1.1
  have a1 := hlast _ _ (by omega) hg
  have a2 := hlast _ _ (by omega) (hg.symm tableOf_sym (by omega))
  rcases h with h | h
  · rw [h] at a2; cases a2
  · rw [h] at a1; cases a1
end
end Go.Proofs.Ytckndnaohggmhaa
