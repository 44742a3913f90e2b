/- Texts of one package, joined: AlonePure, AloneReg, Alone. -/
import Derived.Test.YtchmdkdiilaejaaDMore
/- A sheet without one mark, in plain mathematics. -/
namespace Go.Proofs.Ytchmdkdiilaejaa
open Go.RowKit Go.Shelf
attribute [local irreducible] bitCells fitCells Z94 fitOf

theorem marks_less : ∀ (ms : List (Int × Int)) (f g : Int), f ≤ g → marksOk g ms = true → marksOk f ms = true
  | [], _, _, _, _ => rfl
  | m :: ms, f, g, hfg, h => by
    simp only [marksOk, Bool.and_eq_true, List.all_cons, List.all_nil, inside, decide_eq_true_eq, and_true] at h ⊢
    exact ⟨⟨⟨by omega, h.1.1.2⟩, by omega, h.1.2.2⟩, h.2⟩
theorem marks_wo : ∀ (ms : List (Int × Int)) (f : Int) (k : Nat), marksOk f ms = true → marksOk f (ms.eraseIdx k) = true
  | [], _, _, _ => rfl
  | m :: ms, f, 0, h => by
    have h1 := marks_get (m :: ms) f h 0 (by simp)
    simp only [marksOk, Bool.and_eq_true] at h
    simp only [List.getElem_cons_zero] at h1
    exact marks_less ms f (m.2 + 1) (by omega) h.2.2
  | m :: ms, f, k + 1, h => by
    simp only [marksOk, Bool.and_eq_true, List.eraseIdx_cons_succ] at h ⊢
    exact ⟨h.1, h.2.1, marks_wo ms (m.2 + 1) k h.2.2⟩
theorem sheet_wo {cs ms : List (Int × Int)} (h0 : sheetErr cs ms = 0) (h2 : 2 ≤ ms.length) {k : Nat} (hk : k < ms.length) : sheetErr cs (ms.eraseIdx k) = 0 := by
  obtain ⟨h1, h3, h4⟩ := sheet_ok h0
  have hl : (ms.eraseIdx k).length = ms.length - 1 := List.length_eraseIdx_of_lt hk
  unfold sheetErr
  rw [if_pos (by omega), if_pos h3, if_pos (marks_wo ms 0 k h4)]
/-- The mark that a mark of the lesser sheet was. -/
def oldNo (k i : Nat) : Nat := if i < k then i else i + 1
theorem oldNo_ne (k i : Nat) : oldNo k i ≠ k := by unfold oldNo; split <;> omega
theorem oldNo_inj {k i j : Nat} (h : oldNo k i = oldNo k j) : i = j := by unfold oldNo at h; split at h <;> split at h <;> omega
theorem oldNo_onto {k i n : Nat} (hk : k < n) (hi : i < n) (hne : i ≠ k) : ∃ j, j < n - 1 ∧ oldNo k j = i := by
  rcases Nat.lt_or_ge i k with h | h
  · exact ⟨i, by omega, by unfold oldNo; rw [if_pos h]⟩
  · exact ⟨i - 1, by omega, by unfold oldNo; rw [if_neg (by omega)]; omega⟩
section
variable {cs ms : List (Int × Int)} {k : Nat}
theorem wo_get (hk : k < ms.length) {j : Nat} (hj : j < (ms.eraseIdx k).length) : ∃ h : oldNo k j < ms.length, (ms.eraseIdx k)[j] = ms[oldNo k j] := by
  have hl : (ms.eraseIdx k).length = ms.length - 1 := List.length_eraseIdx_of_lt hk
  refine ⟨by unfold oldNo; split <;> omega, ?_⟩
  rw [List.getElem_eraseIdx]
  unfold oldNo
  split <;> rfl
theorem hit_in {v : Int} (h : hitOf ms v < ms.length) : inMark v ms[hitOf ms v] = true := List.findIdx_getElem (w := h)
theorem hit_wo (hm : marksOk 0 ms = true) (hk : k < ms.length) (v : Int) {j : Nat} (hj : j < (ms.eraseIdx k).length) : hitOf (ms.eraseIdx k) v = j ↔ hitOf ms v = oldNo k j := by
  obtain ⟨h1, h2⟩ := wo_get hk hj
  constructor
  · intro h
    subst h
    refine hit_unique hm h1 ?_
    rw [← h2]
    exact hit_in hj
  · intro h
    refine hit_unique (marks_wo ms 0 k hm) hj ?_
    rw [h2]
    have := hit_in (ms := ms) (v := v) (by omega)
    simpa only [h] using this
theorem hit_wo_lt (hm : marksOk 0 ms = true) (hk : k < ms.length) (v : Int) : hitOf (ms.eraseIdx k) v < (ms.eraseIdx k).length ↔ hitOf ms v < ms.length ∧ hitOf ms v ≠ k := by
  have hl : (ms.eraseIdx k).length = ms.length - 1 := List.length_eraseIdx_of_lt hk
  constructor
  · intro h
    have := (hit_wo hm hk v h).1 rfl
    obtain ⟨h1, _⟩ := wo_get hk h
    rw [this]
    exact ⟨h1, oldNo_ne _ _⟩
  · rintro ⟨h1, h2⟩
    obtain ⟨j, hj, e⟩ := oldNo_onto hk h1 h2
    rw [(hit_wo hm hk v (j := j) (by omega)).2 e.symm]
    omega
theorem had_wo (hm : marksOk 0 ms = true) (hk : k < ms.length) (c : Nat) (x : Int) {j : Nat} (hj : j < (ms.eraseIdx k).length) : hadB cs (ms.eraseIdx k) c x j = (hadB cs ms c x (oldNo k j) && !hadB cs ms c x k) := by
  unfold hadB
  have e1 : hitsTo (ms.eraseIdx k) (cs.getD c (0, 0)).1 x (cs.getD c (0, 0)).2.toNat = (hitsTo ms (cs.getD c (0, 0)).1 x (cs.getD c (0, 0)).2.toNat && !hadTo ms (cs.getD c (0, 0)).1 x (cs.getD c (0, 0)).2.toNat k) := by
    rw [Bool.eq_iff_iff]
    simp only [hitsTo, hadTo, Bool.and_eq_true, List.all_eq_true, Bool.not_eq_true', List.any_eq_false, decide_eq_true_eq]
    constructor
    · intro h
      exact ⟨fun i hi => ((hit_wo_lt hm hk _).1 (h i hi)).1, fun i hi => ((hit_wo_lt hm hk _).1 (h i hi)).2⟩
    · rintro ⟨h1, h2⟩ i hi
      exact (hit_wo_lt hm hk _).2 ⟨h1 i hi, h2 i hi⟩
  have e2 : hadTo (ms.eraseIdx k) (cs.getD c (0, 0)).1 x (cs.getD c (0, 0)).2.toNat j = hadTo ms (cs.getD c (0, 0)).1 x (cs.getD c (0, 0)).2.toNat (oldNo k j) := by
    unfold hadTo
    congr 1
    funext i
    rw [Bool.eq_iff_iff, decide_eq_true_eq, decide_eq_true_eq]
    exact hit_wo hm hk _ hj
  rw [e1, e2]
  generalize hitsTo ms _ _ _ = a
  generalize hadTo ms _ _ _ k = b
  generalize hadTo ms _ _ _ (oldNo k j) = d
  cases a <;> cases b <;> cases d <;> rfl
theorem fits_iff (h0 : sheetErr cs ms = 0) (x : Rw) : x ∈ fitsOf cs ms ↔ x.1 < cs.length ∧ (0 ≤ x.2 ∧ x.2 ≤ 500) ∧ ∃ i, i < ms.length ∧ hadB cs ms x.1 x.2 i = true := by
  have h12 := (sheet_ok h0).1.2.2
  constructor
  · intro hx
    obtain ⟨h1, h2, _, h4⟩ := fits_mem h0 hx
    refine ⟨h1, h2, ?_⟩
    obtain ⟨i, hi⟩ := Nat.exists_testBit_of_ne_zero h4
    rw [noOf_bit, Bool.and_eq_true] at hi
    exact ⟨i, had_lt hi.2, hi.2⟩
  · rintro ⟨h1, h2, i, hi, hb⟩
    unfold fitsOf fitsUpto
    refine List.mem_flatMap.2 ⟨x.1, List.mem_range.2 h1, ?_⟩
    rw [rows_pairs h0 h1]
    refine List.mem_map.2 ⟨x.2, ?_, rfl⟩
    unfold atsOf
    refine (mem_nums _ _ _).2 ⟨x.2.toNat, by omega, ?_, by omega⟩
    unfold fitB
    rw [show ((x.2.toNat : Nat) : Int) = x.2 from by omega, bits_no h12 h2, decide_eq_true_eq]
    intro e
    have : (noOf cs ms (x.1, x.2)).testBit i = true := by
      rw [noOf_bit, hb, Bool.and_true, decide_eq_true_eq]
      omega
    rw [e, Nat.zero_testBit] at this
    cases this
/-- Whoever has the mark k has it alone. -/
def AloneAt (cs ms : List (Int × Int)) (k : Nat) : Prop := ∀ x, x ∈ fitsOf cs ms → hadB cs ms x.1 x.2 k = true → ∀ i, i < ms.length → hadB cs ms x.1 x.2 i = true → i = k
theorem fits_wo (h0 : sheetErr cs ms = 0) (h2 : 2 ≤ ms.length) (hk : k < ms.length) (x : Rw) : x ∈ fitsOf cs (ms.eraseIdx k) ↔ x ∈ fitsOf cs ms ∧ hadB cs ms x.1 x.2 k = false := by
  have hm := (sheet_ok h0).2.2
  have hl : (ms.eraseIdx k).length = ms.length - 1 := List.length_eraseIdx_of_lt hk
  rw [fits_iff (sheet_wo h0 h2 hk), fits_iff h0]
  constructor
  · rintro ⟨h1, h2, j, hj, hb⟩
    rw [had_wo hm hk _ _ hj, Bool.and_eq_true, Bool.not_eq_true'] at hb
    exact ⟨⟨h1, h2, _, (wo_get hk hj).1, hb.1⟩, hb.2⟩
  · rintro ⟨⟨h1, h2, i, hi, hb⟩, hn⟩
    have hik : i ≠ k := fun e => by rw [e, hn] at hb; cases hb
    obtain ⟨j, hj, e⟩ := oldNo_onto hk hi hik
    refine ⟨h1, h2, j, by omega, ?_⟩
    rw [had_wo hm hk _ _ (by omega), e, hb, hn]
    rfl
theorem covers_iff (h12 : ms.length ≤ 12) (l : List Rw) : Cov (noOf cs ms) l (2 ^ ms.length - 1) ↔ ∀ i, i < ms.length → ∃ x, x ∈ l ∧ hadB cs ms x.1 x.2 i = true := by
  constructor
  · intro h i hi
    obtain ⟨x, hx, hb⟩ := h i (by rw [all_bit]; simpa using hi)
    rw [noOf_bit, Bool.and_eq_true] at hb
    exact ⟨x, hx, hb.2⟩
  · intro h i hi
    rw [all_bit, decide_eq_true_eq] at hi
    obtain ⟨x, hx, hb⟩ := h i hi
    exact ⟨x, hx, by rw [noOf_bit, hb, Bool.and_true, decide_eq_true_eq]; omega⟩
theorem whole_of (h0 : sheetErr cs ms = 0) {l : List Rw} (hl : ∀ x, x ∈ l → x ∈ fitsOf cs ms) (hc : Cov (noOf cs ms) l (2 ^ ms.length - 1)) : wholeErr cs ms = 0 := by
  have hm := (sheet_ok h0).1.2.2
  unfold wholeErr
  rw [if_pos h0, if_pos]
  refine (cov_all hm _).1 fun i hi => ?_
  obtain ⟨x, hx, hb⟩ := hc i hi
  exact ⟨x, hl x hx, hb⟩
/-- Without a mark that is alone best rows are one less. -/
theorem few_wo (h0 : sheetErr cs ms = 0) (h2 : 2 ≤ ms.length) (hk : k < ms.length) (ha : AloneAt cs ms k) {y : Rw} (hy : y ∈ fitsOf cs ms) (hyk : hadB cs ms y.1 y.2 k = true) (hn : fewOf cs ms ≠ 100) : fewOf cs (ms.eraseIdx k) + 1 = fewOf cs ms := by
  have hm := (sheet_ok h0).2.2
  have h12 := (sheet_ok h0).1.2.2
  have hl : (ms.eraseIdx k).length = ms.length - 1 := List.length_eraseIdx_of_lt hk
  have h0' := sheet_wo h0 h2 hk
  have hw : wholeErr cs ms = 0 := by
    rcases whole_cases h0 with h | h
    · exact h
    · exact absurd (by unfold fewOf; rw [if_neg (by rw [h]; decide)]) hn
  obtain ⟨_, r, _, _, hp, r1, r2, _, r3⟩ := best_is hw
  have c1 : ∀ x, x ∈ r.filter (fun x => !hadB cs ms x.1 x.2 k) → x ∈ fitsOf cs (ms.eraseIdx k) := fun x hx => by
    obtain ⟨h1, h3⟩ := List.mem_filter.1 hx
    exact (fits_wo h0 h2 hk x).2 ⟨r1 x h1, by simpa using h3⟩
  have c2 : Cov (noOf cs (ms.eraseIdx k)) (r.filter (fun x => !hadB cs ms x.1 x.2 k)) (2 ^ (ms.eraseIdx k).length - 1) := by
    refine (covers_iff (by omega) _).2 fun j hj => ?_
    obtain ⟨h1, _⟩ := wo_get hk hj
    obtain ⟨x, hx, hb⟩ := (covers_iff h12 r).1 r2 _ h1
    have hxk : hadB cs ms x.1 x.2 k = false := by
      cases e : hadB cs ms x.1 x.2 k with
      | false => rfl
      | true => exact absurd (ha x (r1 x hx) e _ h1 hb) (oldNo_ne k j)
    exact ⟨x, List.mem_filter.2 ⟨hx, by rw [hxk]; rfl⟩, by rw [had_wo hm hk _ _ hj, hb, hxk]; rfl⟩
  have hw' := whole_of h0' c1 c2
  obtain ⟨_, r', _, _, hp', s1, s2, _, s3⟩ := best_is hw'
  have e1 := s3 _ c1 c2
  have e2 : (r.filter (fun x => !hadB cs ms x.1 x.2 k)).length < r.length := by
    obtain ⟨x, hx, hb⟩ := (covers_iff h12 r).1 r2 k hk
    refine List.length_filter_lt_length_iff_exists.2 ⟨x, hx, ?_⟩
    rw [hb]
    simp
  have e3 := r3 (y :: r') (fun x hx => by
    rcases List.mem_cons.1 hx with rfl | hx
    · exact hy
    · exact ((fits_wo h0 h2 hk x).1 (s1 x hx)).1) ((covers_iff h12 _).2 fun i hi => by
    by_cases hik : i = k
    · exact ⟨y, List.mem_cons_self, by rw [hik]; exact hyk⟩
    · obtain ⟨j, hj, e⟩ := oldNo_onto hk hi hik
      obtain ⟨x, hx, hb⟩ := (covers_iff (by omega) r').1 s2 j (by omega)
      rw [had_wo hm hk _ _ (by omega), Bool.and_eq_true, e] at hb
      exact ⟨x, List.mem_cons_of_mem _ hx, hb.1⟩)
  rw [List.length_cons] at e3
  unfold fewOf
  rw [if_pos hw, if_pos hw', hp.length_eq, hp'.length_eq]
  omega
/-- Where no row has the mark there are no best rows. -/
theorem few_lost (h0 : sheetErr cs ms = 0) (hk : k < ms.length) (hn : ∀ x, x ∈ fitsOf cs ms → hadB cs ms x.1 x.2 k = false) : fewOf cs ms = 100 := by
  have h12 := (sheet_ok h0).1.2.2
  unfold fewOf
  rw [if_neg]
  intro hw
  obtain ⟨_, r, _, _, _, r1, r2, _, _⟩ := best_is hw
  obtain ⟨x, hx, hb⟩ := (covers_iff h12 r).1 r2 k hk
  rw [hn x (r1 x hx)] at hb
  cases hb
end
theorem has_row {cs ms : List (Int × Int)} (h0 : sheetErr cs ms = 0) {x : Rw} (hx : x ∈ fitsOf cs ms) : hasErr cs ms ((x.1 : Int), x.2) = 0 ∧ hasOf cs ms ((x.1 : Int), x.2) = numsTo (hadB cs ms x.1 x.2) ms.length := by
  obtain ⟨h1, _, h3, h4⟩ := fits_mem h0 hx
  have hb : bitsOf cs ms x.1 x.2 ≠ 0 := by rw [h3]; exact h4
  have hst : strange cs.length ((x.1 : Int), x.2) = false := by
    rw [strange_iff]
    dsimp only
    omega
  constructor
  · unfold hasErr
    rw [if_pos h0, hst, if_neg (by decide), fitFor_eq h0 h1 x.2, if_neg hb, if_neg (by simp)]
  · unfold hasOf
    rw [fitFor_eq h0 h1 x.2, if_neg hb]
    rfl
theorem alone_row {p : Nat → Bool} {n k : Nat} (h1 : ¬ 1 < (numsTo p n).length) (hk : k < n) (hp : p k = true) : ∀ i, i < n → p i = true → i = k := by
  intro i hi hpi
  have m1 : (k : Int) ∈ numsTo p n := (mem_nums _ _ _).2 ⟨k, hk, hp, rfl⟩
  have m2 : (i : Int) ∈ numsTo p n := (mem_nums _ _ _).2 ⟨i, hi, hpi, rfl⟩
  revert h1 m1 m2
  generalize numsTo p n = l
  intro h1 m1 m2
  match l, h1 with
  | [], _ => simp at m1
  | [a], _ =>
    simp at m1 m2
    omega
  | a :: b :: l, h1 => simp at h1
end Go.Proofs.Ytchmdkdiilaejaa

/- CombAlone: its drawn regions. -/
namespace Go.Proofs.Ytchmdkdiilaejaa
open Go.RowKit Go.Shelf
attribute [local irreducible] bitCells fitCells Z94 fitOf

theorem info75c : (Try.prog.info? 75).map (fun i => (i.zero, i.size, i.bytes)) = some (some (.agg #[.int .i64 0, .int .i64 0]), 2, 16) := by kernel_rfl
theorem u23c : Try.prog.underlying 23 = some (.slice 75) := by kernel_rfl
theorem u23d : Try.prog.underlying 23 = some (.slice (Try.prog.elem 23)) := by kernel_rfl
theorem e23 : Try.prog.elem 23 = 75 := by kernel_rfl
theorem run_slice23h (w : World) (b o n c k : Nat) (hk : k ≤ c) :
    (Instr.sliceAt 23 (.slice (some ⟨b, o, none⟩) n c) none (some (.int .i64 (k : Int))) none).run Try.prog w = .ok (.slice (some ⟨b, o, none⟩) k c) w := by
  obtain ⟨i, hi, hz, hs, hb⟩ := info_parts info75c
  rw [run_sliceAt_slice _ _ _ _ _ _ u23d, run_slice_h _ _ _ _ _ u23d _ _ (by omega) (by omega), e23]
  simp [sizeOf, typeInfo, hi, hs, Result.andThen, sliced, Addr.add_lit]
theorem run_slice23l (w : World) (b o n c k : Nat) (hk : k ≤ n) (hc : n ≤ c) :
    ∃ o2, (k < n → o2 = o + k * 2) ∧ (Instr.sliceAt 23 (.slice (some ⟨b, o, none⟩) n c) (some (.int .i64 (k : Int))) none none).run Try.prog w = .ok (.slice (some ⟨b, o2, none⟩) (n - k) (c - k)) w := by
  obtain ⟨i, hi, hz, hs, hb⟩ := info_parts info75c
  rw [run_sliceAt_slice _ _ _ _ _ _ u23d, run_slice_l _ _ _ _ _ u23d _ _ (by omega) (by omega), e23]
  by_cases h : c = k
  · exact ⟨o, fun h2 => by omega, by simp [sizeOf, typeInfo, hi, hs, Result.andThen, sliced, h]⟩
  · exact ⟨o + k * 2, fun _ => rfl, by simp [sizeOf, typeInfo, hi, hs, Result.andThen, sliced, h, Addr.add_lit]⟩
theorem run_append_none23 (W : World) (ty : TypeId) (g n cap : Nat) (a : Addr) (c' : Nat) (hn : n ≤ cap) : (Builtin.append_ #[23, 23] ty #[.slice (some ⟨g, 0, none⟩) n cap, .slice (some a) 0 c']).run Try.prog W = .ok (.slice (some ⟨g, 0, none⟩) n cap) W := by
  obtain ⟨i0, hi0, hz0, hz1, hz2⟩ := info_parts info75c
  have := run_append_room_cells (P := Try.prog) (w := W) 23 ty 75 i0 u23c hi0 g 0 n cap a 0 c' [] (by simp) (fun j u hu => by simp at hu) (fun u hu => by simp at hu) (by omega) (fun j hj => by simp at hj) (fun j hj => by simp at hj)
  exact this
theorem heldS75_of_owns {W : World} {base g n cap : Nat} {ds : List (Int × Int)} (h : W.ownsRow base 75 2 (.slice (some ⟨g, 0, none⟩) n cap) n (ds.flatMap encS)) : Held W W.heap.size 2 encS (some ⟨g, 0, none⟩) ds ∧ n ≤ cap := by
  rcases h.2 with ⟨e, _⟩ | ⟨g', cap', cur, e, _, hg, h1, h2, h3, h4⟩
  · cases e
  · cases e
    refine ⟨.inr ⟨g, 0, rfl, (Array.getElem?_eq_some_iff.1 hg).1, fun j x hx i v hi => ?_⟩, h1⟩
    have hi3 : i < 2 := (List.getElem?_eq_some_iff.1 hi).1
    have h5 : (ds.flatMap encS)[j * 2 + i]? = some v := by
      rw [flatS_get, show (j * 2 + i) / 2 = j from by omega, show (j * 2 + i) % 2 = i from by omega, hx]
      exact hi
    refine (cell_of_row _ _ _ _ _ _ hg).trans ?_
    rw [← h4, List.getElem?_take] at h5
    split at h5
    · rw [Nat.zero_add]; simpa using h5
    · cases h5
theorem takeS_cells {W : World} {b off : Nat} {ds : List (Int × Int)} (h : ∀ j u, (ds.flatMap encS)[j]? = some u → W.cell? ((⟨b, off, none⟩ : Addr).add j) = some u) (k : Nat) : ∀ j u, ((ds.take k).flatMap encS)[j]? = some u → W.cell? ((⟨b, off, none⟩ : Addr).add j) = some u := by
  intro j u hu
  refine h j u ?_
  rw [flatS_get] at hu ⊢
  rw [List.getElem?_take] at hu
  split at hu
  · exact hu
  · simp at hu
theorem dropS_cells {W : World} {b off : Nat} {ds : List (Int × Int)} (h : ∀ j u, (ds.flatMap encS)[j]? = some u → W.cell? ((⟨b, off, none⟩ : Addr).add j) = some u) (k : Nat) : ∀ j u, ((ds.drop k).flatMap encS)[j]? = some u → W.cell? ((⟨b, off + k * 2, none⟩ : Addr).add j) = some u := by
  intro j u hu
  have := h (k * 2 + j) u (by
    rw [flatS_get] at hu ⊢
    rw [List.getElem?_drop] at hu
    rw [show (k * 2 + j) / 2 = k + j / 2 from by omega, show (k * 2 + j) % 2 = j % 2 from by omega]
    exact hu)
  rw [Addr.add_lit] at this ⊢
  rw [Nat.add_assoc]
  exact this

/-- The slots of region 12 of function 10. -/
def al12D (i : Nat) : Tmp := if i = 0 then 47 else if i = 1 then 48 else if i = 2 then 49 else if i = 3 then 50 else if i = 4 then 51 else if i = 5 then 52 else if i = 6 then 46 else if i = 7 then 53 else if i = 8 then 54 else if i = 9 then 11 else 12
/-- What each operation yields. -/
def al12S (_p : Nat) (A : Option Addr) (n c : Nat) (A' : Option Addr) (n' c' g ln cl jj kk : Nat) (x : Int) (hs : List Int) (ix : Nat) (v : Value) (W : World) : Prop :=
  match ix with
  | 0 => v = .agg #[.slice A n c, .slice A' n' c']
  | 1 => v = .slice (some ⟨g, 0, none⟩) ln cl
  | 2 => v = .int .i64 (jj : Int)
  | 3 => v = .pointer (some ⟨g, jj * 2, none⟩)
  | 4 => v = .agg #[.int .i64 (kk : Int), .int .i64 x]
  | 5 => ∃ A9 c9, v = .tuple #[.slice A9 hs.length c9, .int .i64 0] ∧ Held W W.heap.size 1 encI A9 hs
  | 6 => ∃ A9 c9, v = .tuple #[.slice A9 hs.length c9, .int .i64 0] ∧ Held W W.heap.size 1 encI A9 hs
  | 7 => ∃ A9 c9, v = .slice A9 hs.length c9 ∧ Held W W.heap.size 1 encI A9 hs
  | 8 => v = .int .i64 0
  | 9 => ∃ A9 c9, v = .slice A9 hs.length c9 ∧ Held W W.heap.size 1 encI A9 hs
  | 10 => v = .int .i64 0
  | _ => True
noncomputable def al12Reg : Array Oper := (Try.f10.body.bind (regionOf · 12)).getD #[]
theorem al12S_ext {p : Nat} {A : Option Addr} {n c : Nat} {A' : Option Addr} {n' c' g ln cl jj kk : Nat} {x : Int} {hs : List Int} : ∀ (i : Nat) (v : Value) (W W' : World), al12S p A n c A' n' c' g ln cl jj kk x hs i v W → Below W.heap.size W W' → al12S p A n c A' n' c' g ln cl jj kk x hs i v W' := by
  intro i v W W' h e
  match i with
  | 0 => exact h
  | 1 => exact h
  | 2 => exact h
  | 3 => exact h
  | 4 => exact h
  | 5 => (obtain ⟨A9, c9, h1, h2⟩ := h; exact ⟨A9, c9, h1, Held.ext h2 e⟩)
  | 6 => (obtain ⟨A9, c9, h1, h2⟩ := h; exact ⟨A9, c9, h1, Held.ext h2 e⟩)
  | 7 => (obtain ⟨A9, c9, h1, h2⟩ := h; exact ⟨A9, c9, h1, Held.ext h2 e⟩)
  | 8 => exact h
  | 9 => (obtain ⟨A9, c9, h1, h2⟩ := h; exact ⟨A9, c9, h1, Held.ext h2 e⟩)
  | 10 => exact h
  | k + 11 => exact trivial
def al12Ok (p : Nat) (A : Option Addr) (n c : Nat) (A' : Option Addr) (n' c' g ln cl jj kk : Nat) (x : Int) (hs : List Int) (Q : Exit → Act → World → Prop) (a : Act) (W : World) (ix : Nat) (o : Oper) : Prop :=
  (∀ j b, o.guard = some (j, b) → a.eval (.tmp (al12D j)) = .bool b) ∧ o.wp Try.prog a W (fun a'' W' => ∃ v, a'' = a.put o.dst v ∧ al12S p A n c A' n' c' g ln cl jj kk x hs ix v W' ∧ Below W.heap.size W W') Q
section
variable {p : Nat} {A : Option Addr} {n c : Nat} {A' : Option Addr} {n' c' g ln cl jj kk : Nat} {x : Int} {hs : List Int} {Q : Exit → Act → World → Prop} {a : Act} {V W : World} {o : Oper}
set_option maxHeartbeats 1000000 in
theorem al12_op0 (o2 : a.eval (.tmp 2) = .pointer (some ⟨p, 0, none⟩)) (q0 : ∀ W, Ext V W → W.cell? ⟨p, 0, none⟩ = some (.slice A n c)) (q1 : ∀ W, Ext V W → W.cell? ⟨p, 1, none⟩ = some (.slice A' n' c')) (hB : Ext V W) (ho : al12Reg[0]? = some o) : al12Ok p A n c A' n' c' g ln cl jj kk x hs Q a W 0 o := by
  have hop := op_at ho (·.op) (x := Op.load 25 (Operand.tmp 2)) (by kernel_rfl)
  have hgd := op_at ho (·.guard) (x := none) (by kernel_rfl)
  refine ⟨fun j b h => (by rw [hgd] at h; cases h), ?_⟩
  have q0' := q0 W hB
  have q1' := q1 W hB
  exact specs_value (R := fun v W => al12S p A n c A' n' c' g ln cl jj kk x hs 0 v W) (v := .agg #[.slice A n c, .slice A' n' c']) (by simp [execOp, hop, go_sem, ev o2, q0', q1']) rfl (Ext.refl W)
set_option maxHeartbeats 1000000 in
theorem al12_op1 (o8 : a.eval (.tmp 8) = .slice (some ⟨g, 0, none⟩) ln cl) (ho : al12Reg[1]? = some o) : al12Ok p A n c A' n' c' g ln cl jj kk x hs Q a W 1 o := by
  have hop := op_at ho (·.op) (x := Op.move (Operand.tmp 8)) (by kernel_rfl)
  have hgd := op_at ho (·.guard) (x := none) (by kernel_rfl)
  refine ⟨fun j b h => (by rw [hgd] at h; cases h), ?_⟩
  exact specs_value (R := fun v W => al12S p A n c A' n' c' g ln cl jj kk x hs 1 v W) (v := .slice (some ⟨g, 0, none⟩) ln cl) (by simp [execOp, hop, go_sem, ev o8]) rfl (Ext.refl W)
set_option maxHeartbeats 1000000 in
theorem al12_op2 (o10 : a.eval (.tmp 10) = .int .i64 (jj : Int)) (ho : al12Reg[2]? = some o) : al12Ok p A n c A' n' c' g ln cl jj kk x hs Q a W 2 o := by
  have hop := op_at ho (·.op) (x := Op.move (Operand.tmp 10)) (by kernel_rfl)
  have hgd := op_at ho (·.guard) (x := none) (by kernel_rfl)
  refine ⟨fun j b h => (by rw [hgd] at h; cases h), ?_⟩
  exact specs_value (R := fun v W => al12S p A n c A' n' c' g ln cl jj kk x hs 2 v W) (v := .int .i64 (jj : Int)) (by simp [execOp, hop, go_sem, ev o10]) rfl (Ext.refl W)
set_option maxHeartbeats 1000000 in
theorem al12_op3 (hj : jj < ln) (haft : ∀ j, (o.after.any fun e => decide (e.on = j) && Region.binds .any e) = true → al12S p A n c A' n' c' g ln cl jj kk x hs j (a.eval (.tmp (al12D j))) W) (ho : al12Reg[3]? = some o) : al12Ok p A n c A' n' c' g ln cl jj kk x hs Q a W 3 o := by
  have hop := op_at ho (·.op) (x := Op.indexAddr 54 (Operand.tmp 48) (Operand.tmp 49)) (by kernel_rfl)
  have hgd := op_at ho (·.guard) (x := none) (by kernel_rfl)
  have e1 : a.eval (.tmp 48) = .slice (some ⟨g, 0, none⟩) ln cl := haft 1 (op_at ho (fun o => o.after.any fun e => decide (e.on = 1) && Region.binds .any e) (x := true) (by kernel_rfl))
  have e2 : a.eval (.tmp 49) = .int .i64 (jj : Int) := haft 2 (op_at ho (fun o => o.after.any fun e => decide (e.on = 2) && Region.binds .any e) (x := true) (by kernel_rfl))
  refine ⟨fun j b h => (by rw [hgd] at h; cases h), ?_⟩
  have hjz : (jj : Int) < (ln : Int) := by omega
  exact specs_value (R := fun v W => al12S p A n c A' n' c' g ln cl jj kk x hs 3 v W) (v := .pointer (some ⟨g, jj * 2, none⟩)) (by simp [execOp, hop, go_sem, ev e1, ev e2, hjz]) rfl (Ext.refl W)
set_option maxHeartbeats 1000000 in
theorem al12_op4 (c0 : ∀ W, Ext V W → W.cell? ⟨g, jj * 2, none⟩ = some (.int .i64 (kk : Int))) (c1 : ∀ W, Ext V W → W.cell? ⟨g, jj * 2 + 1, none⟩ = some (.int .i64 x)) (hB : Ext V W) (haft : ∀ j, (o.after.any fun e => decide (e.on = j) && Region.binds .any e) = true → al12S p A n c A' n' c' g ln cl jj kk x hs j (a.eval (.tmp (al12D j))) W) (ho : al12Reg[4]? = some o) : al12Ok p A n c A' n' c' g ln cl jj kk x hs Q a W 4 o := by
  have hop := op_at ho (·.op) (x := Op.load 27 (Operand.tmp 50)) (by kernel_rfl)
  have hgd := op_at ho (·.guard) (x := none) (by kernel_rfl)
  have e3 : a.eval (.tmp 50) = .pointer (some ⟨g, jj * 2, none⟩) := haft 3 (op_at ho (fun o => o.after.any fun e => decide (e.on = 3) && Region.binds .any e) (x := true) (by kernel_rfl))
  refine ⟨fun j b h => (by rw [hgd] at h; cases h), ?_⟩
  have c0' := c0 W hB
  have c1' := c1 W hB
  exact specs_value (R := fun v W => al12S p A n c A' n' c' g ln cl jj kk x hs 4 v W) (v := .agg #[.int .i64 (kk : Int), .int .i64 x]) (by simp [execOp, hop, go_sem, ev e3, c0', c1']) rfl (Ext.refl W)
set_option maxHeartbeats 1000000 in
theorem al12_op5 (hcall : ∀ W, Ext V W → Calls Try.prog 17 #[.agg #[.slice A n c, .slice A' n' c'], .agg #[.int .i64 (kk : Int), .int .i64 x]] W fun e w' => ∃ A9 c9, e = .returned (.tuple #[.slice A9 hs.length c9, .int .i64 0]) ∧ Held w' w'.heap.size 1 encI A9 hs ∧ Ext W w') (hB : Ext V W) (haft : ∀ j, (o.after.any fun e => decide (e.on = j) && Region.binds .any e) = true → al12S p A n c A' n' c' g ln cl jj kk x hs j (a.eval (.tmp (al12D j))) W) (ho : al12Reg[5]? = some o) : al12Ok p A n c A' n' c' g ln cl jj kk x hs Q a W 5 o := by
  have hop := op_at ho (·.op) (x := Op.call { callee := Callee.value (Operand.func 17), args := #[Operand.tmp 47, Operand.tmp 51], argTypes := #[25, 27] }) (by kernel_rfl)
  have hgd := op_at ho (·.guard) (x := none) (by kernel_rfl)
  have e0 : a.eval (.tmp 47) = .agg #[.slice A n c, .slice A' n' c'] := haft 0 (op_at ho (fun o => o.after.any fun e => decide (e.on = 0) && Region.binds .any e) (x := true) (by kernel_rfl))
  have e4 : a.eval (.tmp 51) = .agg #[.int .i64 (kk : Int), .int .i64 x] := haft 4 (op_at ho (fun o => o.after.any fun e => decide (e.on = 4) && Region.binds .any e) (x := true) (by kernel_rfl))
  refine ⟨fun j b h => (by rw [hgd] at h; cases h), ?_⟩
  have eR : a.eval (.tmp 51) = .agg #[.int .i64 (kk : Int), .int .i64 x] := e4
  refine specs_call (R := fun v W => al12S p A n c A' n' c' g ln cl jj kk x hs 5 v W) (f := 17) (args := #[.agg #[.slice A n c, .slice A' n' c'], .agg #[.int .i64 (kk : Int), .int .i64 x]]) (by simp [execOp, hop, go_sem, ev e0, ev eR]) ((hcall W hB).mono ?_)
  rintro e w' ⟨A9, c9, rfl, h1, h3⟩
  exact ⟨_, rfl, ⟨A9, c9, rfl, h1⟩, h3⟩
set_option maxHeartbeats 1000000 in
theorem al12_op6 (haft : ∀ j, (o.after.any fun e => decide (e.on = j) && Region.binds .any e) = true → al12S p A n c A' n' c' g ln cl jj kk x hs j (a.eval (.tmp (al12D j))) W) (ho : al12Reg[6]? = some o) : al12Ok p A n c A' n' c' g ln cl jj kk x hs Q a W 6 o := by
  have hop := op_at ho (·.op) (x := Op.move (Operand.tmp 52)) (by kernel_rfl)
  have hgd := op_at ho (·.guard) (x := none) (by kernel_rfl)
  have e5 : al12S p A n c A' n' c' g ln cl jj kk x hs 5 (a.eval (.tmp 52)) W := haft 5 (op_at ho (fun o => o.after.any fun e => decide (e.on = 5) && Region.binds .any e) (x := true) (by kernel_rfl))
  refine ⟨fun j b h => (by rw [hgd] at h; cases h), ?_⟩
  exact specs_value (R := fun v W => al12S p A n c A' n' c' g ln cl jj kk x hs 6 v W) (v := a.eval (.tmp 52)) (by simp [execOp, hop, go_sem]) e5 (Ext.refl W)
set_option maxHeartbeats 1000000 in
theorem al12_op7 (haft : ∀ j, (o.after.any fun e => decide (e.on = j) && Region.binds .any e) = true → al12S p A n c A' n' c' g ln cl jj kk x hs j (a.eval (.tmp (al12D j))) W) (ho : al12Reg[7]? = some o) : al12Ok p A n c A' n' c' g ln cl jj kk x hs Q a W 7 o := by
  have hop := op_at ho (·.op) (x := Op.extract (Operand.tmp 46) 0) (by kernel_rfl)
  have hgd := op_at ho (·.guard) (x := none) (by kernel_rfl)
  have e6 : al12S p A n c A' n' c' g ln cl jj kk x hs 6 (a.eval (.tmp 46)) W := haft 6 (op_at ho (fun o => o.after.any fun e => decide (e.on = 6) && Region.binds .any e) (x := true) (by kernel_rfl))
  refine ⟨fun j b h => (by rw [hgd] at h; cases h), ?_⟩
  obtain ⟨A9, c9, hv, h1⟩ := e6
  exact specs_value (R := fun v W => al12S p A n c A' n' c' g ln cl jj kk x hs 7 v W) (v := .slice A9 hs.length c9) (by simp [execOp, hop, go_sem, ev hv]) ⟨A9, c9, rfl, h1⟩ (Ext.refl W)
set_option maxHeartbeats 1000000 in
theorem al12_op8 (haft : ∀ j, (o.after.any fun e => decide (e.on = j) && Region.binds .any e) = true → al12S p A n c A' n' c' g ln cl jj kk x hs j (a.eval (.tmp (al12D j))) W) (ho : al12Reg[8]? = some o) : al12Ok p A n c A' n' c' g ln cl jj kk x hs Q a W 8 o := by
  have hop := op_at ho (·.op) (x := Op.extract (Operand.tmp 46) 1) (by kernel_rfl)
  have hgd := op_at ho (·.guard) (x := none) (by kernel_rfl)
  have e6 : al12S p A n c A' n' c' g ln cl jj kk x hs 6 (a.eval (.tmp 46)) W := haft 6 (op_at ho (fun o => o.after.any fun e => decide (e.on = 6) && Region.binds .any e) (x := true) (by kernel_rfl))
  refine ⟨fun j b h => (by rw [hgd] at h; cases h), ?_⟩
  obtain ⟨A9, c9, hv, h1⟩ := e6
  exact specs_value (R := fun v W => al12S p A n c A' n' c' g ln cl jj kk x hs 8 v W) (v := .int .i64 0) (by simp [execOp, hop, go_sem, ev hv]) rfl (Ext.refl W)
set_option maxHeartbeats 1000000 in
theorem al12_op9 (haft : ∀ j, (o.after.any fun e => decide (e.on = j) && Region.binds .any e) = true → al12S p A n c A' n' c' g ln cl jj kk x hs j (a.eval (.tmp (al12D j))) W) (ho : al12Reg[9]? = some o) : al12Ok p A n c A' n' c' g ln cl jj kk x hs Q a W 9 o := by
  have hop := op_at ho (·.op) (x := Op.assign (Operand.tmp 53)) (by kernel_rfl)
  have hgd := op_at ho (·.guard) (x := none) (by kernel_rfl)
  have e7 : al12S p A n c A' n' c' g ln cl jj kk x hs 7 (a.eval (.tmp 53)) W := haft 7 (op_at ho (fun o => o.after.any fun e => decide (e.on = 7) && Region.binds .any e) (x := true) (by kernel_rfl))
  refine ⟨fun j b h => (by rw [hgd] at h; cases h), ?_⟩
  exact specs_value (R := fun v W => al12S p A n c A' n' c' g ln cl jj kk x hs 9 v W) (v := a.eval (.tmp 53)) (by simp [execOp, hop, go_sem]) e7 (Ext.refl W)
set_option maxHeartbeats 1000000 in
theorem al12_op10 (haft : ∀ j, (o.after.any fun e => decide (e.on = j) && Region.binds .any e) = true → al12S p A n c A' n' c' g ln cl jj kk x hs j (a.eval (.tmp (al12D j))) W) (ho : al12Reg[10]? = some o) : al12Ok p A n c A' n' c' g ln cl jj kk x hs Q a W 10 o := by
  have hop := op_at ho (·.op) (x := Op.assign (Operand.tmp 54)) (by kernel_rfl)
  have hgd := op_at ho (·.guard) (x := none) (by kernel_rfl)
  have e8 : a.eval (.tmp 54) = .int .i64 0 := haft 8 (op_at ho (fun o => o.after.any fun e => decide (e.on = 8) && Region.binds .any e) (x := true) (by kernel_rfl))
  refine ⟨fun j b h => (by rw [hgd] at h; cases h), ?_⟩
  exact specs_value (R := fun v W => al12S p A n c A' n' c' g ln cl jj kk x hs 10 v W) (v := .int .i64 0) (by simp [execOp, hop, go_sem, ev e8]) rfl (Ext.refl W)
set_option maxRecDepth 100000 in
set_option maxHeartbeats 4000000 in
/-- Region 12 of function 10. -/
theorem al12_wp {id : Nat} (hlen : a.tmps.size = 118) (o2 : a.eval (.tmp 2) = .pointer (some ⟨p, 0, none⟩)) (o8 : a.eval (.tmp 8) = .slice (some ⟨g, 0, none⟩) ln cl) (o10 : a.eval (.tmp 10) = .int .i64 (jj : Int)) (q0 : ∀ W, Ext V W → W.cell? ⟨p, 0, none⟩ = some (.slice A n c)) (q1 : ∀ W, Ext V W → W.cell? ⟨p, 1, none⟩ = some (.slice A' n' c')) (hj : jj < ln) (c0 : ∀ W, Ext V W → W.cell? ⟨g, jj * 2, none⟩ = some (.int .i64 (kk : Int))) (c1 : ∀ W, Ext V W → W.cell? ⟨g, jj * 2 + 1, none⟩ = some (.int .i64 x)) (hcall : ∀ W, Ext V W → Calls Try.prog 17 #[.agg #[.slice A n c, .slice A' n' c'], .agg #[.int .i64 (kk : Int), .int .i64 x]] W fun e w' => ∃ A9 c9, e = .returned (.tuple #[.slice A9 hs.length c9, .int .i64 0]) ∧ Held w' w'.heap.size 1 encI A9 hs ∧ Ext W w') (K : (∀ W v5 v6 v7 v9, Ext V W → al12S p A n c A' n' c' g ln cl jj kk x hs 5 v5 W → al12S p A n c A' n' c' g ln cl jj kk x hs 6 v6 W → al12S p A n c A' n' c' g ln cl jj kk x hs 7 v7 W → al12S p A n c A' n' c' g ln cl jj kk x hs 9 v9 W → wpList Try.prog al12Reg Q (al12Reg.toList.drop 11) (puts a [(47, .agg #[.slice A n c, .slice A' n' c']), (48, .slice (some ⟨g, 0, none⟩) ln cl), (49, .int .i64 (jj : Int)), (50, .pointer (some ⟨g, jj * 2, none⟩)), (51, .agg #[.int .i64 (kk : Int), .int .i64 x]), (52, v5), (46, v6), (53, v7), (54, .int .i64 0), (11, v9), (12, .int .i64 0)]) W)) : (Code.region id al12Reg true).wp Try.prog Q a V := by
  refine wp_region_specs_free (ops := al12Reg) 11 (al12S p A n c A' n' c' g ln cl jj kk x hs) (Ext V) (by kernel_rfl) (by rw [hlen]; kernel_rfl) (by kernel_rfl) ⟨rfl, rfl, rfl, Nat.le_refl _, fun _ _ => rfl⟩ (fun _ _ h e => h.trans e) al12S_ext al12D (by kernel_rfl) ?_ ?_
  · intro i o hi ho a' W hB hsz hold haft
    match i, hi with
    | 0, _ => exact al12_op0 ((hold 2 (by kernel_rfl)).trans o2) q0 q1 hB ho
    | 1, _ => exact al12_op1 ((hold 8 (by kernel_rfl)).trans o8) ho
    | 2, _ => exact al12_op2 ((hold 10 (by kernel_rfl)).trans o10) ho
    | 3, _ => exact al12_op3 hj haft ho
    | 4, _ => exact al12_op4 c0 c1 hB haft ho
    | 5, _ => exact al12_op5 hcall hB haft ho
    | 6, _ => exact al12_op6 haft ho
    | 7, _ => exact al12_op7 haft ho
    | 8, _ => exact al12_op8 haft ho
    | 9, _ => exact al12_op9 haft ho
    | 10, _ => exact al12_op10 haft ho
    | m + 11, h => exact absurd h (by omega)
  · intro a1 W hB hsz hdf hold hS
    obtain ⟨v5, g5⟩ : ∃ v, v = a1.eval (.tmp 52) := ⟨_, rfl⟩
    obtain ⟨v6, g6⟩ : ∃ v, v = a1.eval (.tmp 46) := ⟨_, rfl⟩
    obtain ⟨v7, g7⟩ : ∃ v, v = a1.eval (.tmp 53) := ⟨_, rfl⟩
    obtain ⟨v9, g9⟩ : ∃ v, v = a1.eval (.tmp 11) := ⟨_, rfl⟩
    have hall : ∀ z, z ∈ ([(47, .agg #[.slice A n c, .slice A' n' c']), (48, .slice (some ⟨g, 0, none⟩) ln cl), (49, .int .i64 (jj : Int)), (50, .pointer (some ⟨g, jj * 2, none⟩)), (51, .agg #[.int .i64 (kk : Int), .int .i64 x]), (52, v5), (46, v6), (53, v7), (54, .int .i64 0), (11, v9), (12, .int .i64 0)] : List (Tmp × Value)) → z.1 < a.tmps.size ∧ a1.eval (.tmp z.1) = z.2 := by
      intro z hz
      rw [hlen]
      simp only [List.mem_cons, List.not_mem_nil, or_false] at hz
      rcases hz with rfl | rfl | rfl | rfl | rfl | rfl | rfl | rfl | rfl | rfl | rfl
      · exact ⟨(show (47 : Nat) < 118 by omega), hS 0 (by omega)⟩
      · exact ⟨(show (48 : Nat) < 118 by omega), hS 1 (by omega)⟩
      · exact ⟨(show (49 : Nat) < 118 by omega), hS 2 (by omega)⟩
      · exact ⟨(show (50 : Nat) < 118 by omega), hS 3 (by omega)⟩
      · exact ⟨(show (51 : Nat) < 118 by omega), hS 4 (by omega)⟩
      · exact ⟨(show (52 : Nat) < 118 by omega), g5.symm⟩
      · exact ⟨(show (46 : Nat) < 118 by omega), g6.symm⟩
      · exact ⟨(show (53 : Nat) < 118 by omega), g7.symm⟩
      · exact ⟨(show (54 : Nat) < 118 by omega), hS 8 (by omega)⟩
      · exact ⟨(show (11 : Nat) < 118 by omega), g9.symm⟩
      · exact ⟨(show (12 : Nat) < 118 by omega), hS 10 (by omega)⟩
    have ha := act_puts hsz hdf hall (fun t ht => hold t (all_ne_of (l := [(47, .agg #[.slice A n c, .slice A' n' c']), (48, .slice (some ⟨g, 0, none⟩) ln cl), (49, .int .i64 (jj : Int)), (50, .pointer (some ⟨g, jj * 2, none⟩)), (51, .agg #[.int .i64 (kk : Int), .int .i64 x]), (52, v5), (46, v6), (53, v7), (54, .int .i64 0), (11, v9), (12, .int .i64 0)]) (by kernel_rfl) ht))
    rw [ha]
    exact K W v5 v6 v7 v9 hB (by rw [g5]; exact hS 5 (by omega)) (by rw [g6]; exact hS 6 (by omega)) (by rw [g7]; exact hS 7 (by omega)) (by rw [g9]; exact hS 9 (by omega))
end

/-- The slots of region 19 of function 10. -/
def al19D (i : Nat) : Tmp := if i = 0 then 73 else if i = 1 then 74 else if i = 2 then 75 else if i = 3 then 76 else if i = 4 then 77 else if i = 5 then 78 else if i = 6 then 79 else if i = 7 then 80 else if i = 8 then 81 else if i = 9 then 82 else 83
/-- What each operation yields. -/
def al19S (p b1 o1 n c kk B : Nat) (ms : List (Int × Int)) (ix : Nat) (v : Value) (W : World) : Prop :=
  match ix with
  | 0 => ∃ g, v = .slice (some ⟨g, 0, none⟩) 0 0 ∧ B ≤ g ∧ W.heap[g]? = some (.cells #[] 75 (0, 0))
  | 1 => v = .pointer (some ⟨p, 1, none⟩)
  | 2 => v = .slice (some ⟨b1, o1, none⟩) n c
  | 3 => v = .int .i64 (kk : Int)
  | 4 => v = .slice (some ⟨b1, o1, none⟩) kk c
  | 5 => ∃ g cap, v = .slice (some ⟨g, 0, none⟩) kk cap ∧ B ≤ g ∧ W.ownsRow B 75 2 v kk ((ms.take kk).flatMap encS)
  | 6 => v = .pointer (some ⟨p, 1, none⟩)
  | 7 => v = .slice (some ⟨b1, o1, none⟩) n c
  | 8 => v = .int .i64 (kk : Int)
  | 9 => v = .int .i64 ((kk + 1 : Nat) : Int)
  | 10 => ∃ o2, v = .slice (some ⟨b1, o2, none⟩) (n - (kk + 1)) (c - (kk + 1)) ∧ (kk + 1 < n → o2 = o1 + (kk + 1) * 2)
  | _ => True
noncomputable def al19Reg : Array Oper := (Try.f10.body.bind (regionOf · 19)).getD #[]
theorem al19S_ext {p b1 o1 n c kk B : Nat} {ms : List (Int × Int)} : ∀ (i : Nat) (v : Value) (W W' : World), al19S p b1 o1 n c kk B ms i v W → Below W.heap.size W W' → al19S p b1 o1 n c kk B ms i v W' := by
  intro i v W W' h e
  match i with
  | 0 => (obtain ⟨h1, h2, h3, h4⟩ := h; exact ⟨h1, h2, h3, row_ext h4 e⟩)
  | 1 => exact h
  | 2 => exact h
  | 3 => exact h
  | 4 => exact h
  | 5 => (obtain ⟨h1, h2, h3, h4, h5⟩ := h; exact ⟨h1, h2, h3, h4, owns_ext h5 e⟩)
  | 6 => exact h
  | 7 => exact h
  | 8 => exact h
  | 9 => exact h
  | 10 => exact h
  | k + 11 => exact trivial
def al19Ok (p b1 o1 n c kk B : Nat) (ms : List (Int × Int)) (Q : Exit → Act → World → Prop) (a : Act) (W : World) (ix : Nat) (o : Oper) : Prop :=
  (∀ j b, o.guard = some (j, b) → a.eval (.tmp (al19D j)) = .bool b) ∧ o.wp Try.prog a W (fun a'' W' => ∃ v, a'' = a.put o.dst v ∧ al19S p b1 o1 n c kk B ms ix v W' ∧ Below W.heap.size W W') Q
section
variable {p b1 o1 n c kk B : Nat} {ms : List (Int × Int)} {Q : Exit → Act → World → Prop} {a : Act} {V W : World} {o : Oper}
set_option maxHeartbeats 1000000 in
theorem al19_op0 (hVB : B ≤ V.heap.size) (hB : Ext V W) (ho : al19Reg[0]? = some o) : al19Ok p b1 o1 n c kk B ms Q a W 0 o := by
  have hop := op_at ho (·.op) (x := Op.buildSlice 23 0 #[]) (by kernel_rfl)
  have hgd := op_at ho (·.guard) (x := none) (by kernel_rfl)
  refine ⟨fun j b h => (by rw [hgd] at h; cases h), ?_⟩
  exact specs_value (R := fun v W => al19S p b1 o1 n c kk B ms 0 v W) (v := .slice (some ⟨W.heap.size, 0, none⟩) 0 0) (W' := W.alloc (.cells #[] 75)) (by simp [execOp, hop, go_sem]) ⟨_, rfl, Nat.le_trans hVB hB.size, row_last _ _ _ rfl⟩ (ext_alloc _ _)
set_option maxHeartbeats 1000000 in
theorem al19_op1 (o2 : a.eval (.tmp 2) = .pointer (some ⟨p, 0, none⟩)) (ho : al19Reg[1]? = some o) : al19Ok p b1 o1 n c kk B ms Q a W 1 o := by
  have hop := op_at ho (·.op) (x := Op.fieldAddr 25 (Operand.tmp 2) 1) (by kernel_rfl)
  have hgd := op_at ho (·.guard) (x := none) (by kernel_rfl)
  refine ⟨fun j b h => (by rw [hgd] at h; cases h), ?_⟩
  exact specs_value (R := fun v W => al19S p b1 o1 n c kk B ms 1 v W) (v := .pointer (some ⟨p, 1, none⟩)) (by simp [execOp, hop, go_sem, ev o2]) rfl (Ext.refl W)
set_option maxHeartbeats 1000000 in
theorem al19_op2 (q1 : ∀ W, Ext V W → W.cell? ⟨p, 1, none⟩ = some (.slice (some ⟨b1, o1, none⟩) n c)) (hB : Ext V W) (haft : ∀ j, (o.after.any fun e => decide (e.on = j) && Region.binds .any e) = true → al19S p b1 o1 n c kk B ms j (a.eval (.tmp (al19D j))) W) (ho : al19Reg[2]? = some o) : al19Ok p b1 o1 n c kk B ms Q a W 2 o := by
  have hop := op_at ho (·.op) (x := Op.load 23 (Operand.tmp 74)) (by kernel_rfl)
  have hgd := op_at ho (·.guard) (x := none) (by kernel_rfl)
  have e1 : a.eval (.tmp 74) = .pointer (some ⟨p, 1, none⟩) := haft 1 (op_at ho (fun o => o.after.any fun e => decide (e.on = 1) && Region.binds .any e) (x := true) (by kernel_rfl))
  refine ⟨fun j b h => (by rw [hgd] at h; cases h), ?_⟩
  have q1' := q1 W hB
  exact specs_value (R := fun v W => al19S p b1 o1 n c kk B ms 2 v W) (v := .slice (some ⟨b1, o1, none⟩) n c) (by simp [execOp, hop, go_sem, ev e1, q1']) rfl (Ext.refl W)
set_option maxHeartbeats 1000000 in
theorem al19_op3 (o5 : a.eval (.tmp 5) = .int .i64 (kk : Int)) (ho : al19Reg[3]? = some o) : al19Ok p b1 o1 n c kk B ms Q a W 3 o := by
  have hop := op_at ho (·.op) (x := Op.move (Operand.tmp 5)) (by kernel_rfl)
  have hgd := op_at ho (·.guard) (x := none) (by kernel_rfl)
  refine ⟨fun j b h => (by rw [hgd] at h; cases h), ?_⟩
  exact specs_value (R := fun v W => al19S p b1 o1 n c kk B ms 3 v W) (v := .int .i64 (kk : Int)) (by simp [execOp, hop, go_sem, ev o5]) rfl (Ext.refl W)
set_option maxHeartbeats 1000000 in
theorem al19_op4 (hkn : kk < n) (hnc : n ≤ c) (haft : ∀ j, (o.after.any fun e => decide (e.on = j) && Region.binds .any e) = true → al19S p b1 o1 n c kk B ms j (a.eval (.tmp (al19D j))) W) (ho : al19Reg[4]? = some o) : al19Ok p b1 o1 n c kk B ms Q a W 4 o := by
  have hop := op_at ho (·.op) (x := Op.slice 23 (Operand.tmp 75) none (some (Operand.tmp 76)) none) (by kernel_rfl)
  have hgd := op_at ho (·.guard) (x := none) (by kernel_rfl)
  have e2 : a.eval (.tmp 75) = .slice (some ⟨b1, o1, none⟩) n c := haft 2 (op_at ho (fun o => o.after.any fun e => decide (e.on = 2) && Region.binds .any e) (x := true) (by kernel_rfl))
  have e3 : a.eval (.tmp 76) = .int .i64 (kk : Int) := haft 3 (op_at ho (fun o => o.after.any fun e => decide (e.on = 3) && Region.binds .any e) (x := true) (by kernel_rfl))
  refine ⟨fun j b h => (by rw [hgd] at h; cases h), ?_⟩
  have hs4 := run_slice23h W b1 o1 n c kk (by omega)
  exact specs_value (R := fun v W => al19S p b1 o1 n c kk B ms 4 v W) (v := .slice (some ⟨b1, o1, none⟩) kk c) (by simp [execOp, hop, e2, e3, hs4, Result.andThen]) rfl (Ext.refl W)
set_option maxHeartbeats 1000000 in
theorem al19_op5 (hn : n = ms.length) (hkn : kk < n) (hn9 : n ≤ 5000) (hVB : B ≤ V.heap.size) (hq : ∀ W, Ext V W → ∀ j u, (ms.flatMap encS)[j]? = some u → W.cell? ((⟨b1, o1, none⟩ : Addr).add j) = some u) (hB : Ext V W) (haft : ∀ j, (o.after.any fun e => decide (e.on = j) && Region.binds .any e) = true → al19S p b1 o1 n c kk B ms j (a.eval (.tmp (al19D j))) W) (ho : al19Reg[5]? = some o) : al19Ok p b1 o1 n c kk B ms Q a W 5 o := by
  have hop := op_at ho (·.op) (x := Op.call { callee := Callee.builtin Builtin.append, args := #[Operand.tmp 73, Operand.tmp 77], argTypes := #[23, 23] }) (by kernel_rfl)
  have hgd := op_at ho (·.guard) (x := none) (by kernel_rfl)
  have e0 : al19S p b1 o1 n c kk B ms 0 (a.eval (.tmp 73)) W := haft 0 (op_at ho (fun o => o.after.any fun e => decide (e.on = 0) && Region.binds .any e) (x := true) (by kernel_rfl))
  have e4 : a.eval (.tmp 77) = .slice (some ⟨b1, o1, none⟩) kk c := haft 4 (op_at ho (fun o => o.after.any fun e => decide (e.on = 4) && Region.binds .any e) (x := true) (by kernel_rfl))
  refine ⟨fun j b h => (by rw [hgd] at h; cases h), ?_⟩
  obtain ⟨g, e0v, hBg, e0r⟩ := e0
  obtain ⟨i0, hi, hz0, hz1, hz2⟩ := info_parts info75c
  by_cases hk0 : kk = 0
  · subst hk0
    exact specs_value (R := fun v W => al19S p b1 o1 n c 0 B ms 5 v W) (v := .slice (some ⟨g, 0, none⟩) 0 0) (W' := W) (by simp [execOp, hop, resolve, invoke, builtin, e0v, e4, run_append_none23, Result.andThen]) ⟨g, 0, rfl, hBg, ⟨rfl, .inr ⟨g, 0, #[], rfl, hBg, e0r, Nat.le_refl _, Nat.zero_le _, rfl, rfl⟩⟩⟩ (Ext.refl W)
  · obtain ⟨v', w', hrun, r1, r2⟩ := run_append_arg_grows (P := Try.prog) W 23 o.type 75 i0 (.agg #[.int .i64 0, .int .i64 0]) 2 16 u23c hi hz0 hz1 hz2 rfl (by decide) ⟨g, 0, none⟩ 0 0 [] rfl (fun j u hu => by simp at hu) ⟨b1, o1, none⟩ kk c ((ms.take kk).flatMap encS) (by rw [flatS_len, List.length_take, ← hn, Nat.min_eq_left (by omega)]) (takeS_cells (hq W hB) kk) (by omega) (by unfold maxLen; omega) (by omega)
    rw [Nat.zero_add, List.nil_append] at r1
    have r1' := r1
    obtain ⟨g1, cap, hv', hg1, _⟩ := r1'.form (by omega)
    exact specs_value (R := fun v W => al19S p b1 o1 n c kk B ms 5 v W) (v := v') (W' := w') (by simp [execOp, hop, resolve, invoke, builtin, e0v, e4, hrun, Result.andThen]) ⟨g1, cap, hv', Nat.le_trans (Nat.le_trans hVB hB.size) hg1, owns_mono r1 (Nat.le_trans hVB hB.size)⟩ ((Below.refl W.heap.size W).grown r2 (Nat.le_refl _) (fun k e => by cases e))
set_option maxHeartbeats 1000000 in
theorem al19_op6 (o2 : a.eval (.tmp 2) = .pointer (some ⟨p, 0, none⟩)) (ho : al19Reg[6]? = some o) : al19Ok p b1 o1 n c kk B ms Q a W 6 o := by
  have hop := op_at ho (·.op) (x := Op.fieldAddr 25 (Operand.tmp 2) 1) (by kernel_rfl)
  have hgd := op_at ho (·.guard) (x := none) (by kernel_rfl)
  refine ⟨fun j b h => (by rw [hgd] at h; cases h), ?_⟩
  exact specs_value (R := fun v W => al19S p b1 o1 n c kk B ms 6 v W) (v := .pointer (some ⟨p, 1, none⟩)) (by simp [execOp, hop, go_sem, ev o2]) rfl (Ext.refl W)
set_option maxHeartbeats 1000000 in
theorem al19_op7 (q1 : ∀ W, Ext V W → W.cell? ⟨p, 1, none⟩ = some (.slice (some ⟨b1, o1, none⟩) n c)) (hB : Ext V W) (haft : ∀ j, (o.after.any fun e => decide (e.on = j) && Region.binds .any e) = true → al19S p b1 o1 n c kk B ms j (a.eval (.tmp (al19D j))) W) (ho : al19Reg[7]? = some o) : al19Ok p b1 o1 n c kk B ms Q a W 7 o := by
  have hop := op_at ho (·.op) (x := Op.load 23 (Operand.tmp 79)) (by kernel_rfl)
  have hgd := op_at ho (·.guard) (x := none) (by kernel_rfl)
  have e6 : a.eval (.tmp 79) = .pointer (some ⟨p, 1, none⟩) := haft 6 (op_at ho (fun o => o.after.any fun e => decide (e.on = 6) && Region.binds .any e) (x := true) (by kernel_rfl))
  refine ⟨fun j b h => (by rw [hgd] at h; cases h), ?_⟩
  have q1' := q1 W hB
  exact specs_value (R := fun v W => al19S p b1 o1 n c kk B ms 7 v W) (v := .slice (some ⟨b1, o1, none⟩) n c) (by simp [execOp, hop, go_sem, ev e6, q1']) rfl (Ext.refl W)
set_option maxHeartbeats 1000000 in
theorem al19_op8 (o5 : a.eval (.tmp 5) = .int .i64 (kk : Int)) (ho : al19Reg[8]? = some o) : al19Ok p b1 o1 n c kk B ms Q a W 8 o := by
  have hop := op_at ho (·.op) (x := Op.move (Operand.tmp 5)) (by kernel_rfl)
  have hgd := op_at ho (·.guard) (x := none) (by kernel_rfl)
  refine ⟨fun j b h => (by rw [hgd] at h; cases h), ?_⟩
  exact specs_value (R := fun v W => al19S p b1 o1 n c kk B ms 8 v W) (v := .int .i64 (kk : Int)) (by simp [execOp, hop, go_sem, ev o5]) rfl (Ext.refl W)
set_option maxHeartbeats 1000000 in
theorem al19_op9 (hw : IntKind.i64.wrap ((kk : Int) + 1) = ((kk + 1 : Nat) : Int)) (haft : ∀ j, (o.after.any fun e => decide (e.on = j) && Region.binds .any e) = true → al19S p b1 o1 n c kk B ms j (a.eval (.tmp (al19D j))) W) (ho : al19Reg[9]? = some o) : al19Ok p b1 o1 n c kk B ms Q a W 9 o := by
  have hop := op_at ho (·.op) (x := Op.binOp BinOp.add 3 (Operand.tmp 81) (Operand.const (Value.int IntKind.i64 1)) 3) (by kernel_rfl)
  have hgd := op_at ho (·.guard) (x := none) (by kernel_rfl)
  have e8 : a.eval (.tmp 81) = .int .i64 (kk : Int) := haft 8 (op_at ho (fun o => o.after.any fun e => decide (e.on = 8) && Region.binds .any e) (x := true) (by kernel_rfl))
  refine ⟨fun j b h => (by rw [hgd] at h; cases h), ?_⟩
  exact specs_value (R := fun v W => al19S p b1 o1 n c kk B ms 9 v W) (v := .int .i64 ((kk + 1 : Nat) : Int)) (by simp [execOp, hop, go_sem, ev e8, hw]) rfl (Ext.refl W)
set_option maxHeartbeats 1000000 in
theorem al19_op10 (hkn : kk < n) (hnc : n ≤ c) (haft : ∀ j, (o.after.any fun e => decide (e.on = j) && Region.binds .any e) = true → al19S p b1 o1 n c kk B ms j (a.eval (.tmp (al19D j))) W) (ho : al19Reg[10]? = some o) : al19Ok p b1 o1 n c kk B ms Q a W 10 o := by
  have hop := op_at ho (·.op) (x := Op.slice 23 (Operand.tmp 80) (some (Operand.tmp 82)) none none) (by kernel_rfl)
  have hgd := op_at ho (·.guard) (x := none) (by kernel_rfl)
  have e7 : a.eval (.tmp 80) = .slice (some ⟨b1, o1, none⟩) n c := haft 7 (op_at ho (fun o => o.after.any fun e => decide (e.on = 7) && Region.binds .any e) (x := true) (by kernel_rfl))
  have e9 : a.eval (.tmp 82) = .int .i64 ((kk + 1 : Nat) : Int) := haft 9 (op_at ho (fun o => o.after.any fun e => decide (e.on = 9) && Region.binds .any e) (x := true) (by kernel_rfl))
  refine ⟨fun j b h => (by rw [hgd] at h; cases h), ?_⟩
  obtain ⟨o2, ho2, hr2⟩ := run_slice23l W b1 o1 n c (kk + 1) (by omega) hnc
  rw [show ((kk + 1 : Nat) : Int) = (kk : Int) + 1 from by omega] at hr2
  exact specs_value (R := fun v W => al19S p b1 o1 n c kk B ms 10 v W) (v := .slice (some ⟨b1, o2, none⟩) (n - (kk + 1)) (c - (kk + 1))) (W' := W) (by simp [execOp, hop, e7, e9, hr2, Result.andThen]) ⟨o2, rfl, ho2⟩ (Ext.refl W)
set_option maxRecDepth 100000 in
set_option maxHeartbeats 4000000 in
/-- Region 19 of function 10. -/
theorem al19_wp {id : Nat} (hlen : a.tmps.size = 118) (o2 : a.eval (.tmp 2) = .pointer (some ⟨p, 0, none⟩)) (o5 : a.eval (.tmp 5) = .int .i64 (kk : Int)) (hVB : B ≤ V.heap.size) (q1 : ∀ W, Ext V W → W.cell? ⟨p, 1, none⟩ = some (.slice (some ⟨b1, o1, none⟩) n c)) (hkn : kk < n) (hnc : n ≤ c) (hn : n = ms.length) (hn9 : n ≤ 5000) (hq : ∀ W, Ext V W → ∀ j u, (ms.flatMap encS)[j]? = some u → W.cell? ((⟨b1, o1, none⟩ : Addr).add j) = some u) (hw : IntKind.i64.wrap ((kk : Int) + 1) = ((kk + 1 : Nat) : Int)) (K : (∀ W v0 v5 v10, Ext V W → al19S p b1 o1 n c kk B ms 0 v0 W → al19S p b1 o1 n c kk B ms 5 v5 W → al19S p b1 o1 n c kk B ms 10 v10 W → wpList Try.prog al19Reg Q (al19Reg.toList.drop 11) (puts a [(73, v0), (74, .pointer (some ⟨p, 1, none⟩)), (75, .slice (some ⟨b1, o1, none⟩) n c), (76, .int .i64 (kk : Int)), (77, .slice (some ⟨b1, o1, none⟩) kk c), (78, v5), (79, .pointer (some ⟨p, 1, none⟩)), (80, .slice (some ⟨b1, o1, none⟩) n c), (81, .int .i64 (kk : Int)), (82, .int .i64 ((kk + 1 : Nat) : Int)), (83, v10)]) W)) : (Code.region id al19Reg true).wp Try.prog Q a V := by
  refine wp_region_specs_sink (ops := al19Reg) 11 (al19S p b1 o1 n c kk B ms) (Ext V) (by kernel_rfl) (by rw [hlen]; kernel_rfl) (by kernel_rfl) ⟨rfl, rfl, rfl, Nat.le_refl _, fun _ _ => rfl⟩ (fun _ _ h e => h.trans e) al19S_ext al19D (by kernel_rfl) ?_ ?_
  · intro i o hi ho a' W hB hsz hold haft
    match i, hi with
    | 0, _ => exact al19_op0 hVB hB ho
    | 1, _ => exact al19_op1 ((hold 2 (by kernel_rfl)).trans o2) ho
    | 2, _ => exact al19_op2 q1 hB haft ho
    | 3, _ => exact al19_op3 ((hold 5 (by kernel_rfl)).trans o5) ho
    | 4, _ => exact al19_op4 hkn hnc haft ho
    | 5, _ => exact al19_op5 hn hkn hn9 hVB hq hB haft ho
    | 6, _ => exact al19_op6 ((hold 2 (by kernel_rfl)).trans o2) ho
    | 7, _ => exact al19_op7 q1 hB haft ho
    | 8, _ => exact al19_op8 ((hold 5 (by kernel_rfl)).trans o5) ho
    | 9, _ => exact al19_op9 hw haft ho
    | 10, _ => exact al19_op10 hkn hnc haft ho
    | m + 11, h => exact absurd h (by omega)
  · intro a1 W hB hsz hdf hold hS
    obtain ⟨v0, g0⟩ : ∃ v, v = a1.eval (.tmp 73) := ⟨_, rfl⟩
    obtain ⟨v5, g5⟩ : ∃ v, v = a1.eval (.tmp 78) := ⟨_, rfl⟩
    obtain ⟨v10, g10⟩ : ∃ v, v = a1.eval (.tmp 83) := ⟨_, rfl⟩
    have hall : ∀ z, z ∈ ([(73, v0), (74, .pointer (some ⟨p, 1, none⟩)), (75, .slice (some ⟨b1, o1, none⟩) n c), (76, .int .i64 (kk : Int)), (77, .slice (some ⟨b1, o1, none⟩) kk c), (78, v5), (79, .pointer (some ⟨p, 1, none⟩)), (80, .slice (some ⟨b1, o1, none⟩) n c), (81, .int .i64 (kk : Int)), (82, .int .i64 ((kk + 1 : Nat) : Int)), (83, v10)] : List (Tmp × Value)) → z.1 < a.tmps.size ∧ a1.eval (.tmp z.1) = z.2 := by
      intro z hz
      rw [hlen]
      simp only [List.mem_cons, List.not_mem_nil, or_false] at hz
      rcases hz with rfl | rfl | rfl | rfl | rfl | rfl | rfl | rfl | rfl | rfl | rfl
      · exact ⟨(show (73 : Nat) < 118 by omega), g0.symm⟩
      · exact ⟨(show (74 : Nat) < 118 by omega), hS 1 (by omega)⟩
      · exact ⟨(show (75 : Nat) < 118 by omega), hS 2 (by omega)⟩
      · exact ⟨(show (76 : Nat) < 118 by omega), hS 3 (by omega)⟩
      · exact ⟨(show (77 : Nat) < 118 by omega), hS 4 (by omega)⟩
      · exact ⟨(show (78 : Nat) < 118 by omega), g5.symm⟩
      · exact ⟨(show (79 : Nat) < 118 by omega), hS 6 (by omega)⟩
      · exact ⟨(show (80 : Nat) < 118 by omega), hS 7 (by omega)⟩
      · exact ⟨(show (81 : Nat) < 118 by omega), hS 8 (by omega)⟩
      · exact ⟨(show (82 : Nat) < 118 by omega), hS 9 (by omega)⟩
      · exact ⟨(show (83 : Nat) < 118 by omega), g10.symm⟩
    have ha := act_puts hsz hdf hall (fun t ht => hold t (all_ne_of (l := [(73, v0), (74, .pointer (some ⟨p, 1, none⟩)), (75, .slice (some ⟨b1, o1, none⟩) n c), (76, .int .i64 (kk : Int)), (77, .slice (some ⟨b1, o1, none⟩) kk c), (78, v5), (79, .pointer (some ⟨p, 1, none⟩)), (80, .slice (some ⟨b1, o1, none⟩) n c), (81, .int .i64 (kk : Int)), (82, .int .i64 ((kk + 1 : Nat) : Int)), (83, v10)]) (by kernel_rfl) ht))
    rw [ha]
    exact K W v0 v5 v10 hB (by rw [g0]; exact hS 0 (by omega)) (by rw [g5]; exact hS 5 (by omega)) (by rw [g10]; exact hS 10 (by omega))
end

set_option maxRecDepth 100000 in
set_option maxHeartbeats 2000000 in
theorem al19_tail {a : Act} {V : World} {Q : Exit → Act → World → Prop} {B px n cap1 g1 kk b1 o2 c2 : Nat} {ms : List (Int × Int)} {x0 y0 : Value} (h118 : a.tmps.size = 118)
    (e78 : a.eval (.tmp 78) = .slice (some ⟨g1, 0, none⟩) kk cap1) (e83 : a.eval (.tmp 83) = .slice (some ⟨b1, o2, none⟩) (n - (kk + 1)) c2) (e13 : a.eval (.tmp 13) = .pointer (some ⟨px, 0, none⟩))
    (hown : V.ownsRow B 75 2 (.slice (some ⟨g1, 0, none⟩) kk cap1) kk ((ms.take kk).flatMap encS)) (hg1 : B ≤ g1) (hBV : B ≤ V.heap.size) (hkn : kk < n) (hn : n = ms.length)
    (hq : kk + 1 < n → ∀ j u, ((ms.drop (kk + 1)).flatMap encS)[j]? = some u → V.cell? ((⟨b1, o2, none⟩ : Addr).add j) = some u)
    (hrow : V.heap[px]? = some (.cells #[x0, y0] 25 (0, 0))) (hpx : px < B) (hn9 : n ≤ 5000)
    (K : ∀ g3 cap3 W, W.ownsRow B 75 2 (.slice (some ⟨g3, 0, none⟩) (n - 1) cap3) (n - 1) ((ms.eraseIdx kk).flatMap encS) → Below px V W → W.heap[px]? = some (.cells #[x0, .slice (some ⟨g3, 0, none⟩) (n - 1) cap3] 25 (0, 0)) →
      Q .normal ((a.put (some 84) (.slice (some ⟨g3, 0, none⟩) (n - 1) cap3)).put (some 85) (.pointer (some ⟨px, 1, none⟩))) W) : wpList Try.prog al19Reg Q (al19Reg.toList.drop 11) a V := by
  obtain ⟨o6, o7, o8, hdr, h6, h7, h8⟩ : ∃ o6 o7 o8, al19Reg.toList.drop 11 = [o6, o7, o8] ∧ al19Reg[11]? = some o6 ∧ al19Reg[12]? = some o7 ∧ al19Reg[13]? = some o8 := by
    have hs : al19Reg.size = 14 := by kernel_rfl
    refine ⟨al19Reg[11], al19Reg[12], al19Reg[13], ?_, Array.getElem?_eq_getElem _, Array.getElem?_eq_getElem _, Array.getElem?_eq_getElem _⟩
    rw [List.drop_eq_getElem_cons (by simp [hs]), List.drop_eq_getElem_cons (by simp [hs]), List.drop_eq_getElem_cons (by simp [hs]), List.drop_eq_nil_of_le (by simp [hs])]
    simp
  rw [hdr]
  obtain ⟨i0, hi0, hz0, hz1, hz2⟩ := info_parts info75c
  have hop6 := op_at h6 (·.op) (x := Op.call { callee := Callee.builtin Builtin.append, args := #[Operand.tmp 78, Operand.tmp 83], argTypes := #[23, 23] }) (by kernel_rfl)
  have hg6 := op_at h6 (·.guard) (x := none) (by kernel_rfl)
  have hd6 := op_at h6 (·.dst) (x := some 84) (by kernel_rfl)
  have e1 : (ms.eraseIdx kk).flatMap encS = (ms.take kk).flatMap encS ++ (ms.drop (kk + 1)).flatMap encS := by rw [List.eraseIdx_eq_take_drop_succ, List.flatMap_append]
  have rest : ∀ g3 cap3 V3, V3.ownsRow B 75 2 (.slice (some ⟨g3, 0, none⟩) (n - 1) cap3) (n - 1) ((ms.eraseIdx kk).flatMap encS) → Below B V V3 → wpList Try.prog al19Reg Q [o7, o8] (a.put (some 84) (.slice (some ⟨g3, 0, none⟩) (n - 1) cap3)) V3 := by
    intro g3 cap3 V3 hown3 hE3
    obtain ⟨a6, ha6⟩ : ∃ a6, a.put (some 84) (.slice (some ⟨g3, 0, none⟩) (n - 1) cap3) = a6 := ⟨_, rfl⟩
    have e7b : a6.eval (.tmp 13) = .pointer (some ⟨px, 0, none⟩) := by rw [← ha6]; exact (eval_put_other (by decide)).trans e13
    have e31a : a6.eval (.tmp 84) = .slice (some ⟨g3, 0, none⟩) (n - 1) cap3 := by rw [← ha6]; exact eval_put_same (d := 84) (by rw [h118]; decide)
    have hlen6 : a6.tmps.size = 118 := by rw [← ha6]; simp [Act.put, h118]
    have K3 := K g3 cap3
    rw [ha6] at K3
    rw [ha6]
    refine wpList_one (v := .pointer (some ⟨px, 1, none⟩)) (w' := V3) (op_at h7 (·.guard) (x := none) (by kernel_rfl)) (by simp [execOp, show o7.op = .fieldAddr 25 (.tmp 13) 1 from op_at h7 (·.op) (by kernel_rfl), go_sem, ev e7b]) ?_
    rw [show o7.dst = some 85 from op_at h7 (·.dst) (by kernel_rfl)]
    obtain ⟨a7, ha7⟩ : ∃ a7, a6.put (some 85) (.pointer (some ⟨px, 1, none⟩)) = a7 := ⟨_, rfl⟩
    have e31 : a7.eval (.tmp 84) = .slice (some ⟨g3, 0, none⟩) (n - 1) cap3 := by rw [← ha7]; exact (eval_put_other (by decide)).trans e31a
    have e32 : a7.eval (.tmp 85) = .pointer (some ⟨px, 1, none⟩) := by rw [← ha7]; exact eval_put_same (d := 85) (by rw [hlen6]; decide)
    rw [ha7] at K3
    rw [ha7]
    have hrA : V3.heap[px]? = some (.cells #[x0, y0] 25 (0, 0)) := (hE3.block px hpx).trans hrow
    have fz : V3.frozen? ⟨px, 1, none⟩ = false := by simp [World.frozen?, hrA]
    have hcA : V3.cell? ⟨px, 1, none⟩ = some y0 := cell_of_row _ _ _ _ _ _ hrA
    refine wpList_skip (w' := V3.setCell ⟨px, 1, none⟩ (.slice (some ⟨g3, 0, none⟩) (n - 1) cap3)) (op_at h8 (·.guard) (x := none) (by kernel_rfl)) (by simp [execOp, show o8.op = .store 23 (.tmp 85) (.tmp 84) from op_at h8 (·.op) (by kernel_rfl), go_sem, ev e31, ev e32, fz, hcA]) ?_
    rw [show o8.dst = none from op_at h8 (·.dst) (by kernel_rfl)]
    refine K3 _ (owns_far hown3 fun k hk => ?_) (Below.setCell (hE3.mono (Nat.le_of_lt hpx)) (p := ⟨px, 1, none⟩) (Nat.le_refl _) _) ?_
    · simp only [World.setCell, Array.getElem?_modify]
      rw [if_neg (by omega)]
    · simp [World.setCell, Array.getElem?_modify, hrA]
  by_cases hlast : n - (kk + 1) = 0
  · have hnk : n - 1 = kk := by omega
    have hdrop : ms.drop (kk + 1) = [] := List.drop_eq_nil_of_le (by omega)
    rw [hdrop, List.flatMap_nil, List.append_nil] at e1
    have r := rest g1 cap1 V (by rw [e1, hnk]; exact hown) (Below.refl B V)
    rw [hnk] at r
    rw [hlast] at e83
    have hcap := (heldS75_of_owns hown).2
    refine wpList_one (v := .slice (some ⟨g1, 0, none⟩) kk cap1) (w' := V) hg6 (by simp [execOp, hop6, resolve, invoke, builtin, e78, e83, run_append_none23 _ _ _ _ _ _ _ hcap, Result.andThen]) ?_
    rw [hd6]
    exact r
  · have hm : kk + (n - (kk + 1)) = n - 1 := by omega
    have hlen : ((ms.drop (kk + 1)).flatMap encS).length = (n - (kk + 1)) * 2 := by rw [flatS_len, List.length_drop, hn]
    refine wpList_tail hg6 (step_append_lies V hg6 (.tmp 78) (.tmp 83) 23 hop6 B 75 i0 _ 2 16 u23c hi0 hz0 hz1 hz2 rfl (by omega) _ kk ((ms.take kk).flatMap encS) e78 hown ⟨b1, o2, none⟩ (n - (kk + 1)) c2 ((ms.drop (kk + 1)).flatMap encS) e83 hlen (hq (by omega)) (fun u hu => ?_) (by omega) (by unfold maxLen; omega) (by omega) hBV V.heap.size rfl ?_)
    · obtain ⟨x, _, hx⟩ := List.mem_flatMap.1 hu
      simp [encS] at hx
      rcases hx with rfl | rfl <;> rfl
    · intro g3 cap3 V3 hown3 hgr _ _
      rw [hm, ← e1] at hown3
      have r := rest g3 cap3 V3 hown3 ((Below.refl B V).grown hgr hBV fun r e => by cases e; exact hg1)
      rw [hm, hd6]
      exact r
end Go.Proofs.Ytchmdkdiilaejaa

/- CombAlone, walked. -/
namespace Go.Proofs.Ytchmdkdiilaejaa
open Go.RowKit Go.Shelf
attribute [local irreducible] bitCells fitCells Z94 fitOf

theorem few_le2 {cs ms : List (Int × Int)} (h0 : sheetErr cs ms = 0) : fewOf cs ms ≤ 100 := by
  unfold fewOf
  split
  · rename_i h1
    have := best_few h1
    have := (sheet_ok h0).1.2.2
    omega
  · exact Nat.le_refl _

set_option maxRecDepth 100000 in
set_option maxHeartbeats 8000000 in
theorem alone_any {A : Option Addr} {n c : Nat} {A' : Option Addr} {n' c' : Nat} {cs ms : List (Int × Int)} {w : World} (hb : IsSheet w w.heap.size A n c A' n' c' cs ms) (x : Int) (hx0 : 0 ≤ x) (hx1 : x ≤ 255) :
    Calls Try.prog 10 #[.agg #[.slice A n c, .slice A' n' c'], .int .u8 x] w fun e w' => e = .returned (.bool true) ∧ Ext w w' := by
  have hX0 := SheetAt.new hb
  have hE0 : Ext w (w.alloc (.cells #[.slice A n c, .slice A' n' c'] 25)) := ext_alloc w _
  have HN := Lib.hid (And.intro hb.ncs hb.nms)
  have HB := Lib.hid hb
  clear hb
  go_enter Try.func10, Try.ntmps10
  go_upto_region 1 with fail
  obtain ⟨w0, hw0⟩ : ∃ w0, w.alloc (.cells #[.slice A n c, .slice A' n' c'] 25) = w0 := ⟨_, rfl⟩
  have hz : w.heap.size < w0.heap.size := by rw [← hw0]; simp
  rw [hw0] at hX0 hE0
  rw [hw0]
  obtain ⟨p, hp⟩ : ∃ p, w.heap.size = p := ⟨_, rfl⟩
  rw [hp] at hX0
  rw [hp]
  have HP := Lib.hid (And.intro hp hz)
  have HX := Lib.hid hX0
  have HE := Lib.hid hE0
  clear hX0 hE0 hw0 hp hz
  obtain ⟨q0, q1⟩ := HX.out.cells
  have h39 := fine_any HX.out.sheet
  by_cases h0 : sheetErr cs ms = 0
  · rw [decide_eq_true h0] at h39
    have HS := Lib.hid h0
    clear h0
    go_wp2_with (fail)
    refine h39.mono ?_
    rintro e w1 ⟨rfl, e1⟩
    have HE := Lib.hid (HE.out.trans e1)
    have HX := Lib.hid (HX.out.ext e1)
    have HZ := Lib.hid (Nat.lt_of_lt_of_le HP.out.2 e1.size)
    clear e1 h39 q0 q1
    obtain ⟨q0, q1⟩ := HX.out.cells
    by_cases g1 : (n' : Int) < 2
    · go_wp2_with fail
      refine (works_any _).mono ?_
      rintro e w2 ⟨rfl, e2⟩
      have HE := Lib.hid (HE.out.trans e2)
      clear e2
      go_wp2
      go_ret
      exact ⟨rfl, HE.out⟩
    · have hsm := sheet_ok HS.out
      have hn12 : n' ≤ 12 := by have := HN.out.2; have := hsm.1; omega
      have hn8 : n ≤ 8 := by have := HN.out.1; have := hsm.1; omega
      have hn2 : 2 ≤ n' := by omega
      have hnz : ¬ (n' : Int) = 0 := by omega
      obtain ⟨kk, hkk, hkn⟩ : ∃ kk : Nat, x.tmod (n' : Int) = (kk : Int) ∧ kk < n' := by
        have h1 := Int.tmod_nonneg (a := x) (n' : Int) hx0
        have h2 := Int.tmod_lt_of_pos x (b := (n' : Int)) (by omega)
        exact ⟨(x.tmod (n' : Int)).toNat, by omega, by omega⟩
      have h47 := few47_any HX.out.sheet HS.out
      have hkm : kk < ms.length := by rw [← HN.out.2]; exact hkn
      clear hsm
      go_wp2_with fail
      clear hkk hx0 hx1
      refine h47.mono ?_
      rintro e w2 ⟨rfl, e2⟩
      have HE := Lib.hid (HE.out.trans e2)
      have HX := Lib.hid (HX.out.ext e2)
      have HZ := Lib.hid (Nat.lt_of_lt_of_le HZ.out e2.size)
      clear e2 h47 q0 q1
      obtain ⟨F1, hF1⟩ : ∃ F1, fewOf cs ms = F1 := ⟨_, rfl⟩
      have hle := few_le2 HS.out
      rw [hF1] at hle
      rw [hF1]
      have HF1 := Lib.hid hF1
      clear hF1
      obtain ⟨q0, q1⟩ := HX.out.cells
      have h48 := refRows_any HX.out.sheet HS.out
      go_wp2_with fail
      refine h48.mono ?_
      rintro e w3 ⟨v, rfl, e3, hv⟩
      obtain ⟨A5, c5, hv2⟩ := owns_slice hv
      subst hv2
      have HX := Lib.hid (HX.out.ext e3)
      have HE := Lib.hid (HE.out.trans e3)
      have HZ := Lib.hid (Nat.lt_of_lt_of_le HZ.out e3.size)
      have hfew := fits_few HS.out
      obtain ⟨ls, hls⟩ : ∃ ls, fitsOf cs ms = ls := ⟨_, rfl⟩
      rw [hls] at hv hfew
      rw [hls]
      have HLS := Lib.hid hls
      have HV := Lib.hid hv
      clear e3 h48 hv hls q0 q1 g1 hnz
      go_wp2_with fail
      go_loopw [9, 10] (fun s i wr => ∃ (j : Nat) (sb : Bool), j ≤ ls.length ∧ i = .int .i64 j ∧ s = .bool sb ∧ Hid (Ext w3 wr) ∧ Hid (sb = true ↔ ∃ y, y ∈ ls.take j ∧ hadB cs ms y.1 y.2 kk = true) ∧
        Hid (∀ y, y ∈ ls.take j → hadB cs ms y.1 y.2 kk = true → ∀ i, i < ms.length → hadB cs ms y.1 y.2 i = true → i = kk)) (fun _ i _ => ls.length - (intOf i).toNat)
      case atStart => exact ⟨0, false, Nat.zero_le _, rfl, rfl, Lib.hid (Ext.refl _), Lib.hid ⟨fun h => (by cases h), fun ⟨y, h, _⟩ => by simp at h⟩, Lib.hid (fun y h => by simp at h)⟩
      case round =>
        obtain ⟨j, sb, hj, rfl, rfl, hE, hD, hA⟩ := hrel
        by_cases hjl : j < ls.length
        · have hjz : (j : Int) < (ls.length : Int) := by omega
          obtain ⟨g, rfl, hg, c0, c1⟩ := pair_at (owns_ext HV.out hE.out) hjl
          have hmem : ls[j] ∈ fitsOf cs ms := by rw [HLS.out]; exact List.getElem_mem hjl
          obtain ⟨her, hho⟩ := has_row HS.out hmem
          have htk : ls.take (j + 1) = ls.take j ++ [ls[j]] := List.take_succ_eq_append_getElem hjl
          have halone := fun (h1 : ¬ 1 < (numsTo (hadB cs ms ls[j].1 ls[j].2) ms.length).length) (hp : hadB cs ms ls[j].1 ls[j].2 kk = true) => alone_row h1 hkm hp
          have hinn : (kk : Int) ∈ numsTo (hadB cs ms ls[j].1 ls[j].2) ms.length ↔ hadB cs ms ls[j].1 ls[j].2 kk = true := by
            rw [mem_nums]
            constructor
            · rintro ⟨i, _, h, e⟩
              obtain rfl : kk = i := by omega
              exact h
            · intro h
              exact ⟨kk, hkm, h, rfl⟩
          obtain ⟨y, hy⟩ : ∃ y, ls[j] = y := ⟨_, rfl⟩
          rw [hy] at c0 c1 her hho htk halone hinn
          have h17 : ∀ W, Ext wr W → Calls Try.prog 17 #[.agg #[.slice A n c, .slice A' n' c'], .agg #[.int .i64 (y.1 : Int), .int .i64 y.2]] W fun e w' => ∃ A9 c9, e = .returned (.tuple #[.slice A9 (numsTo (hadB cs ms y.1 y.2) ms.length).length c9, .int .i64 0]) ∧ Held w' w'.heap.size 1 encI A9 (numsTo (hadB cs ms y.1 y.2) ms.length) ∧ Ext W w' := fun W hW =>
            (has2_any ((HX.out.ext hE.out).ext hW).sheet ((y.1 : Int), y.2)).mono fun e w' hp2 => by
              obtain ⟨e5, A9, m9, c9, he, hm9, _, hh9⟩ := post_ints hp2
              rw [her, if_pos rfl, hho] at hm9 hh9
              rw [her, hm9] at he
              exact ⟨A9, c9, he, hh9, e5⟩
          obtain ⟨bk, hbk⟩ : ∃ bk, hadB cs ms y.1 y.2 kk = bk := ⟨_, rfl⟩
          rw [hbk] at halone hinn
          have hhl : (numsTo (hadB cs ms y.1 y.2) ms.length).length ≤ 12 := Nat.le_trans (nums_few _ _) (by have := HN.out.2; omega)
          obtain ⟨hs, hhs⟩ : ∃ hs, numsTo (hadB cs ms y.1 y.2) ms.length = hs := ⟨_, rfl⟩
          simp only [hhs] at h17
          rw [hhs] at halone hinn hhl
          have H17 := Lib.hid h17
          have HXr := Lib.hid (HX.out.ext hE.out)
          have HC := Lib.hid (And.intro (fun W (hW : Ext wr W) => (hW.cell (p := ⟨g, j * 2, none⟩) hg).trans c0) (fun W (hW : Ext wr W) => (hW.cell (p := ⟨g, j * 2 + 1, none⟩) hg).trans c1))
          have HTK := Lib.hid htk
          have HAL := Lib.hid halone
          have HIN := Lib.hid hinn
          have HBK := Lib.hid hbk
          clear h17 c0 c1 hg hmem her hho htk halone hinn hbk hhs hy
          go_upto_region 12 with fail
          refine al12_wp (p := p) (A := A) (n := n) (c := c) (A' := A') (n' := n') (c' := c') (g := g) (ln := ls.length) (cl := c5) (jj := j) (kk := y.1) (x := y.2) (hs := hs) rfl rfl rfl rfl
            (fun W hW => (HXr.out.ext hW).cells.1) (fun W hW => (HXr.out.ext hW).cells.2) hjl (fun W hW => HC.out.1 W hW) (fun W hW => HC.out.2 W hW) (fun W hW => H17.out W hW) ?_
          intro w4 v5 v6 v7 v9 e4 _ _ _ i9
          obtain ⟨A9, c9, rfl, hh9⟩ : ∃ A9 c9, v9 = .slice A9 hs.length c9 ∧ Held w4 w4.heap.size 1 encI A9 hs := i9
          have hdr : al12Reg.toList.drop 11 = [] := List.drop_eq_nil_of_le (by rw [Array.length_toList]; exact Nat.le_of_eq (by kernel_rfl))
          rw [hdr]
          simp only [wpList, puts, List.foldl_cons, List.foldl_nil, Act.put, List.setIfInBounds_toArray, List.set_cons_succ, List.set_cons_zero]
          have HE4 := Lib.hid (hE.out.trans e4)
          have H9 := Lib.hid hh9
          clear hdr e4 hh9 hE
          have h45 := in_any A9 hs.length c9 hs (kk : Int) w4 rfl (by omega) H9.out
          cases bk with
          | true =>
            rw [decide_eq_true (HIN.out.2 (by simp))] at h45
            go_wp2_with fail
            refine h45.mono ?_
            rintro e w5 ⟨rfl, e5⟩
            have HE5 := Lib.hid (HE4.out.trans (show Ext w4 w5 from e5))
            have H9 := Lib.hid (Held.ext H9.out (show Ext w4 w5 from e5))
            clear e5 h45
            by_cases h1 : (1 : Int) < (hs.length : Int)
            · go_wp2_with fail
              refine (works_any _).mono ?_
              rintro e w6 ⟨rfl, e6⟩
              have HE := Lib.hid ((HE.out.trans HE5.out).trans e6)
              clear e6
              go_wp2
              go_ret
              exact ⟨rfl, HE.out⟩
            · have hal := HAL.out (by omega) (by simp)
              have HA2 := Lib.hid hal
              clear hal
              have h45 := in_any A9 hs.length c9 hs (kk : Int) w5 rfl (by omega) H9.out
              rw [decide_eq_true (HIN.out.2 (by simp))] at h45
              cases sb with
              | true =>
                clear h45
                go_wp2
                go_roundw
                case measure => simp [intOf]; omega
                case rel =>
                  refine ⟨j + 1, true, by omega, by go_num, rfl, HE5, Lib.hid ?_, Lib.hid ?_⟩
                  · rw [HTK.out]
                    exact ⟨fun _ => ⟨y, by simp, HBK.out⟩, fun _ => rfl⟩
                  · rw [HTK.out]
                    intro z hz
                    rcases List.mem_append.1 hz with hz | hz
                    · exact hA.out z hz
                    · obtain rfl := List.mem_singleton.1 hz
                      exact fun _ => HA2.out
              | false =>
                go_wp2_with fail
                refine h45.mono ?_
                rintro e w6 ⟨rfl, e6⟩
                have HE6 := Lib.hid (HE5.out.trans (show Ext w5 w6 from e6))
                clear e6 h45
                go_wp2
                go_roundw
                case measure => simp [intOf]; omega
                case rel =>
                  refine ⟨j + 1, true, by omega, by go_num, rfl, HE6, Lib.hid ?_, Lib.hid ?_⟩
                  · rw [HTK.out]
                    exact ⟨fun _ => ⟨y, by simp, HBK.out⟩, fun _ => rfl⟩
                  · rw [HTK.out]
                    intro z hz
                    rcases List.mem_append.1 hz with hz | hz
                    · exact hA.out z hz
                    · obtain rfl := List.mem_singleton.1 hz
                      exact fun _ => HA2.out
          | false =>
            rw [decide_eq_false (fun h => by have := HIN.out.1 h; cases this)] at h45
            go_wp2_with fail
            refine h45.mono ?_
            rintro e w5 ⟨rfl, e5⟩
            have HE5 := Lib.hid (HE4.out.trans (show Ext w4 w5 from e5))
            have H9 := Lib.hid (Held.ext H9.out (show Ext w4 w5 from e5))
            clear e5 h45
            have h45 := in_any A9 hs.length c9 hs (kk : Int) w5 rfl (by omega) H9.out
            rw [decide_eq_false (fun h => by have := HIN.out.1 h; cases this)] at h45
            cases sb with
            | true =>
              clear h45
              go_wp2
              go_roundw
              case measure => simp [intOf]; omega
              case rel =>
                refine ⟨j + 1, true, by omega, by go_num, rfl, HE5, Lib.hid ?_, Lib.hid ?_⟩
                · rw [HTK.out]
                  refine ⟨fun _ => ?_, fun _ => rfl⟩
                  obtain ⟨z, hz, hzb⟩ := hD.out.1 (by simp)
                  exact ⟨z, List.mem_append_left _ hz, hzb⟩
                · rw [HTK.out]
                  intro z hz
                  rcases List.mem_append.1 hz with hz | hz
                  · exact hA.out z hz
                  · obtain rfl := List.mem_singleton.1 hz
                    intro h
                    rw [HBK.out] at h
                    cases h
            | false =>
              go_wp2_with fail
              refine h45.mono ?_
              rintro e w6 ⟨rfl, e6⟩
              have HE6 := Lib.hid (HE5.out.trans (show Ext w5 w6 from e6))
              clear e6 h45
              go_wp2
              go_roundw
              case measure => simp [intOf]; omega
              case rel =>
                refine ⟨j + 1, false, by omega, by go_num, rfl, HE6, Lib.hid ?_, Lib.hid ?_⟩
                · rw [HTK.out]
                  refine ⟨fun h => (by cases h), fun ⟨z, hz, hzb⟩ => ?_⟩
                  rcases List.mem_append.1 hz with hz | hz
                  · exact hD.out.2 ⟨z, hz, hzb⟩
                  · obtain rfl := List.mem_singleton.1 hz
                    rw [HBK.out] at hzb
                    cases hzb
                · rw [HTK.out]
                  intro z hz
                  rcases List.mem_append.1 hz with hz | hz
                  · exact hA.out z hz
                  · obtain rfl := List.mem_singleton.1 hz
                    intro h
                    rw [HBK.out] at h
                    cases h
        · have hjz : ¬ (j : Int) < (ls.length : Int) := by omega
          obtain rfl : j = ls.length := by omega
          have hd := hD.out
          have ha := hA.out
          rw [List.take_length] at hd ha
          have HD := Lib.hid hd
          have HAA := Lib.hid ha
          have HEr := Lib.hid (HE.out.trans hE.out)
          have HXr := Lib.hid (HX.out.ext hE.out)
          have HZr := Lib.hid (Nat.lt_of_lt_of_le HZ.out hE.out.size)
          clear hd ha hD hA hE HV
          obtain ⟨b1, o1, rfl⟩ : ∃ b1 o1, A' = some ⟨b1, o1, none⟩ := by
            rcases HB.out.hms with h | ⟨b, off, h, _⟩
            · have := HN.out.2
              rw [h] at this
              simp at this
              omega
            · exact ⟨b, off, h⟩
          obtain ⟨q0, q1⟩ := HXr.out.cells
          go_upto_region 19 with fail
          obtain ⟨w5, hw5⟩ : ∃ w5, wr.alloc (.cells #[.slice A n c, .slice (some ⟨b1, o1, none⟩) n' c'] 25) = w5 := ⟨_, rfl⟩
          have e5 : Ext wr w5 := by rw [← hw5]; exact ext_alloc _ _
          have r5 : w5.heap[wr.heap.size]? = some (.cells #[.slice A n c, .slice (some ⟨b1, o1, none⟩) n' c'] 25 (0, 0)) := by rw [← hw5]; exact row_last _ _ _ rfl
          have hz5 : wr.heap.size < w5.heap.size := by rw [← hw5]; simp
          rw [hw5]
          obtain ⟨px, hpx⟩ : ∃ px, wr.heap.size = px := ⟨_, rfl⟩
          rw [hpx] at r5 hz5 ⊢
          have hpp : p < px ∧ w.heap.size ≤ px := by
            have h1 := HP.out.1
            have h2 := HZr.out
            omega
          have HEr := Lib.hid (HEr.out.trans e5)
          have HXr := Lib.hid (HXr.out.ext e5)
          have HR := Lib.hid r5
          have HPP := Lib.hid hpp
          have HZ5 := Lib.hid hz5
          have hcap := HB.out.cap'
          have hwk : IntKind.i64.wrap ((kk : Int) + 1) = ((kk + 1 : Nat) : Int) := by
            rw [show ((kk + 1 : Nat) : Int) = (kk : Int) + 1 from by omega]
            exact IntWalk.i64_in _ (by omega)
          clear e5 r5 hz5 hpp hw5 hpx q0 q1
          refine al19_wp (p := p) (b1 := b1) (o1 := o1) (n := n') (c := c') (kk := kk) (B := w5.heap.size) (ms := ms) rfl rfl rfl (Nat.le_refl _) (fun W hW => (HXr.out.ext hW).cells.2) hkn hcap HN.out.2 (by omega) (fun W hW => heldS_flat (HXr.out.ext hW).sheet.hms) hwk ?_
          intro W v0 v5 v10 eW i0 i5 i10
          obtain ⟨g0, rfl, _, _⟩ : ∃ g, v0 = .slice (some ⟨g, 0, none⟩) 0 0 ∧ w5.heap.size ≤ g ∧ W.heap[g]? = some (.cells #[] 75 (0, 0)) := i0
          obtain ⟨g1, cap1, rfl, hg1, hown⟩ : ∃ g cap, v5 = .slice (some ⟨g, 0, none⟩) kk cap ∧ w5.heap.size ≤ g ∧ W.ownsRow w5.heap.size 75 2 v5 kk ((ms.take kk).flatMap encS) := i5
          obtain ⟨o2, rfl, ho2⟩ : ∃ o2, v10 = .slice (some ⟨b1, o2, none⟩) (n' - (kk + 1)) (c' - (kk + 1)) ∧ (kk + 1 < n' → o2 = o1 + (kk + 1) * 2) := i10
          simp only [puts, List.foldl_cons, List.foldl_nil, Act.put, List.setIfInBounds_toArray, List.set_cons_succ, List.set_cons_zero]
          refine al19_tail (B := w5.heap.size) (px := px) (n := n') (cap1 := cap1) (g1 := g1) (kk := kk) (b1 := b1) (o2 := o2) (c2 := c' - (kk + 1)) (ms := ms) rfl rfl rfl rfl hown hg1 eW.size hkn HN.out.2
            (fun h => by rw [ho2 h]; exact dropS_cells (heldS_flat (HXr.out.ext eW).sheet.hms) (kk + 1)) (row_ext HR.out eW) HZ5.out (by omega) ?_
          intro g3 cap3 W3 hown3 hB3 hrow3
          simp only [Act.put, List.setIfInBounds_toArray, List.set_cons_succ, List.set_cons_zero]
          have hEW : Ext w W3 := Below.trans (show Below w.heap.size w W from HEr.out.trans eW) (hB3.mono HPP.out.2)
          have hsh3 := (HB.out.ext hEW)
          have hheld := heldS75_of_owns hown3
          have hel : (ms.eraseIdx kk).length = ms.length - 1 := List.length_eraseIdx_of_lt hkm
          have hY3 : SheetAt W3 px A n c (some ⟨g3, 0, none⟩) (n' - 1) cap3 cs (ms.eraseIdx kk) := ⟨hrow3, hsh3.ncs, by rw [hel, ← HN.out.2], hsh3.nle, by omega, hsh3.cap, hheld.2, hsh3.hcs, hheld.1⟩
          have HY := Lib.hid hY3
          have HE := Lib.hid hEW
          clear hY3 hEW hsh3 hheld hown3 hB3 hrow3 hown hg1 eW ho2 hel HR HB HZ5 HPP HZ HZr HEr HXr HX hwk
          have h2m : 2 ≤ ms.length := by have := HN.out.2; omega
          have h47 := few47_any HY.out.sheet (sheet_wo HS.out h2m hkm)
          obtain ⟨q0, q1⟩ := HY.out.cells
          have hwo := fun (y : Rw) (hy : y ∈ fitsOf cs ms) (hyk : hadB cs ms y.1 y.2 kk = true) => few_wo HS.out h2m hkm (fun x hx => HAA.out x (by rw [← HLS.out]; exact hx)) hy hyk
          have hlost := few_lost HS.out hkm
          obtain ⟨F2, hF2⟩ : ∃ F2, fewOf cs (ms.eraseIdx kk) = F2 := ⟨_, rfl⟩
          rw [hF2] at h47
          simp only [hF2, HF1.out] at hwo
          rw [HF1.out] at hlost
          have HWO := Lib.hid hwo
          have HLO := Lib.hid hlost
          clear hF2 hwo hlost h2m
          go_wp2_with fail
          refine h47.mono ?_
          rintro e w6 ⟨rfl, e6⟩
          have HE := Lib.hid (HE.out.trans e6)
          clear e6 h47 q0 q1
          cases sb with
          | false =>
            have hF : F1 = 100 := HLO.out fun y hy => by
              cases h : hadB cs ms y.1 y.2 kk with
              | false => rfl
              | true => exact absurd (HD.out.2 ⟨y, by rw [← HLS.out]; exact hy, h⟩) (by simp)
            subst hF
            go_wp2_with fail
            refine (works_any _).mono ?_
            rintro e w7 ⟨rfl, e7⟩
            have HE := Lib.hid (HE.out.trans e7)
            clear e7
            go_wp2
            go_ret
            exact ⟨rfl, HE.out⟩
          | true =>
            by_cases hF : F1 = 100
            · subst hF
              go_wp2_with fail
              refine (works_any _).mono ?_
              rintro e w7 ⟨rfl, e7⟩
              have HE := Lib.hid (HE.out.trans e7)
              clear e7
              go_wp2
              go_ret
              exact ⟨rfl, HE.out⟩
            · have hFz : ¬ (F1 : Int) = 100 := by omega
              have hsub : IntKind.i64.wrap ((F1 : Int) - 1) = (F2 : Int) := by
                obtain ⟨y, hy, hyk⟩ := HD.out.1 rfl
                have := HWO.out y (by rw [HLS.out]; exact hy) hyk hF
                rw [show (F1 : Int) - 1 = (F2 : Int) from by omega]
                exact IntWalk.i64_in _ (by omega)
              clear hF
              go_wp2_with fail
              refine (works_any _).mono ?_
              rintro e w7 ⟨rfl, e7⟩
              have HE := Lib.hid (HE.out.trans e7)
              clear e7
              go_wp2
              go_ret
              exact ⟨rfl, HE.out⟩
  · rw [decide_eq_false h0] at h39
    clear h0
    go_wp2_with (fail)
    refine h39.mono ?_
    rintro e w1 ⟨rfl, e1⟩
    have HE := Lib.hid (HE.out.trans e1)
    clear e1 h39 q0 q1
    go_wp2_with fail
    refine (works_any _).mono ?_
    rintro e w2 ⟨rfl, e2⟩
    have HE := Lib.hid (HE.out.trans e2)
    clear e2
    go_wp2
    go_ret
    exact ⟨rfl, HE.out⟩
end Go.Proofs.Ytchmdkdiilaejaa
