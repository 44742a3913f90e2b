/- Texts of one package, joined: BestCopy, RefRows, LostReg. -/
import Derived.Test.YtchmdkdiilaejaaD20
import Derived.Test.YtchmdkdiilaejaaD21
import Derived.Laws.CopyOwn
import Derived.Shelf.GgSortFunc.InsertionK
/- Best: the copy of the rows. -/
namespace Go.Proofs.Ytchmdkdiilaejaa
open Go.RowKit Go.Shelf Go.Sort
attribute [local irreducible] bitCells fitCells Z94 fitOf

theorem run_copy54 (w : World) (ty : TypeId) (g n c1 c2 : Nat) (sp : Option Addr) (cur : Array Value) (hg : w.heap[g]? = some (.cells cur 27 (0, 0))) (hcur : cur.size = n * 2) (cs : List Value) (hn : cs.length = n * 2)
    (hsrc : n = 0 ∨ ∃ ad, sp = some ad ∧ ∀ j v, cs[j]? = some v → w.cell? (ad.add j) = some v) (h1 : ∀ v ∈ cs, v.oneCell' = true) :
    (Builtin.copy_ #[54, 54] ty #[.slice (some ⟨g, 0, none⟩) n c1, .slice sp n c2]).run Try.prog w = .ok (goInt n) (w.setRow g cs.toArray) := by
  obtain ⟨i0, hi, _, hz1, _⟩ := info_parts info27c
  have hu : Try.prog.underlying 54 = some (.slice 27) := Try.underlying54
  rcases hsrc with rfl | ⟨ad, rfl, hsrc⟩
  · obtain rfl : cs = [] := List.eq_nil_of_length_eq_zero (by omega)
    obtain rfl : cur = #[] := Array.eq_empty_of_size_eq_zero (by omega)
    rw [setRow_self w g _ 27 (0, 0) hg]
    cases sp <;> simp [Builtin.copy_, run_underlying hu, Builtin.lenOf, Builtin.firstCells, sizeOf, typeInfo, hi, storeCells, loadCells, loadCellsFrom]
  · have hl := run_loadCells_list (P := Try.prog) w ad cs hsrc
    have hst := run_storeCells_at Try.prog g 0 27 cs 0 cur w hg (by omega) h1
    have he : (cur.toList.take (0 + 0) ++ cs ++ cur.toList.drop (0 + 0 + cs.length)).toArray = cs.toArray := by
      rw [List.drop_eq_nil_of_le (by simp; omega)]
      simp
    rw [he] at hst
    rw [hn] at hl
    simp [Builtin.copy_, run_underlying hu, Builtin.lenOf, Builtin.firstCells, sizeOf, typeInfo, hi, hz1, hl, hst]
section
variable {ops : Array Oper} {rest : List Oper} {o : Oper} {a : Act} {w : World} {Q : Exit → Act → World → Prop}
theorem wpList_copy54 (hgd : o.guard = none) (d s : Operand) (ho : o.op = .call { callee := .builtin .copy, args := #[d, s], argTypes := #[54, 54] }) (g n c1 c2 : Nat) (sp : Option Addr) (hd : a.eval d = .slice (some ⟨g, 0, none⟩) n c1) (hs : a.eval s = .slice sp n c2)
    (cur : Array Value) (hg : w.heap[g]? = some (.cells cur 27 (0, 0))) (hcur : cur.size = n * 2) (cs : List Value) (hn : cs.length = n * 2)
    (hsrc : n = 0 ∨ ∃ ad, sp = some ad ∧ ∀ j v, cs[j]? = some v → w.cell? (ad.add j) = some v) (h1 : ∀ v ∈ cs, v.oneCell' = true)
    (h : wpList Try.prog ops Q rest (a.put o.dst (goInt n)) (w.setRow g cs.toArray)) : wpList Try.prog ops Q (o :: rest) a w := by
  refine wpList_plain hgd fun K hK => ?_
  have hrun := run_copy54 w o.type g n c1 c2 sp cur hg hcur cs hn hsrc h1
  unfold Oper.wp
  simp [execOp, ho, resolve, invoke, builtin, hd, hs, hrun, Result.andThen]
  exact hK _ _ h
end
theorem run_make54 (n : Nat) (hn : n ≤ 4096) (w : World) : (Instr.makeSlice 54 (.int .i64 (n : Int)) (.int .i64 (n : Int))).run Try.prog w = .ok (.slice (some ⟨w.heap.size, 0, none⟩) n n) (w.alloc (.cells (madeCells #[.int .i64 0, .int .i64 0] (n * 2)) 27)) := by
  obtain ⟨i0, hi, hz0, hz1, hz2⟩ := info_parts info27c
  have := run_makeSlice (P := Try.prog) w 54 27 i0 _ Try.underlying54 hi hz0 .i64 .i64 (n : Int) (n : Int) (by omega) (Int.le_refl _) (by rw [hz1]; simp; omega) (by rw [hz2]; omega) (by omega)
  simp only [Int.toNat_natCast, hz1] at this
  exact this
theorem flat_list (d : Array Rw) : (flatK encRw 2 d).toList = d.toList.flatMap encRw := by
  have : ∀ l : List Rw, (List.range (l.length * 2)).map (fun t => (encRw l[t / 2]!)[t % 2]!) = l.flatMap encRw := by
    intro l
    induction l with
    | nil => rfl
    | cons x l ih =>
      rw [List.flatMap_cons, ← ih, show (x :: l).length * 2 = 2 + l.length * 2 from by simp; omega, List.range_add]
      simp only [List.map_append, List.map_map]
      congr 1
      apply List.map_congr_left
      intro t _
      simp only [Function.comp]
      rw [show (2 + t) / 2 = t / 2 + 1 from by omega, show (2 + t) % 2 = t % 2 from by omega]
      simp
  rw [← this d.toList]
  unfold flatK
  simp
  intro t _
  rw [show d[t / 2]! = d[t / 2]?.getD default from by rw [getElem!_def]; cases d[t / 2]? <;> rfl]
/-- What lies in memory behind the sort. -/
theorem sorted_row {w : World} {g : Nat} {cs : Array Value} (hg : w.heap[g]? = some (.cells cs 27 (0, 0))) (d : Array Rw) (hsz : cs.size = d.size * 2) (m : Nat) (os : Array Obj) :
    (sortWorldK encRw 2 w g 0 m d os).heap[g]? = some (.cells (flatK encRw 2 d) 27 (0, 0)) ∧ Below g w (sortWorldK encRw 2 w g 0 m d os) := by
  have hlt := (Array.getElem?_eq_some_iff.1 hg).1
  constructor
  · unfold sortWorldK
    rw [heap_grow_old _ _ (by simp [putRowK, putRow, mapBlock]; exact hlt)]
    unfold putRowK putRow mapBlock
    show (w.heap.modify g _)[g]? = _
    rw [Array.getElem?_modify, if_pos rfl, hg]
    simp only [Option.map_some, onCells]
    congr 2
    apply Array.ext
    · simp [putCells, hsz]
    · intro i h1 h2
      have h3 : i < d.size * 2 := by simpa using h2
      simp only [putCells, Array.getElem_mapIdx]
      rw [if_pos ⟨Nat.zero_le _, by simpa using h3⟩]
      simp only [Nat.sub_zero, id]
      rw [getElem!_pos _ i h2]
  · refine ⟨rfl, rfl, rfl, ?_, fun k hk => ?_⟩
    · simp [sortWorldK, putRowK, putRow, mapBlock]
    · unfold sortWorldK
      rw [heap_grow_old _ _ (by simp [putRowK, putRow, mapBlock]; omega)]
      unfold putRowK putRow mapBlock
      show (w.heap.modify g _)[k]? = _
      rw [Array.getElem?_modify, if_neg (by omega)]
end Go.Proofs.Ytchmdkdiilaejaa

/- Rows of the reference. -/
namespace Go.Proofs.Ytchmdkdiilaejaa
open Go.RowKit Go.Shelf
attribute [local irreducible] bitCells fitCells Z94 fitOf

theorem long_at {W : World} {base : Nat} {e : TypeId} {A : Option Addr} {n c : Nat} {xs : List Int} (h : W.ownsRow base e 1 (.slice A n c) n (xs.map (Value.int .i64))) {i : Nat} (hi : i < xs.length) : ∃ g, A = some ⟨g, 0, none⟩ ∧ g < W.heap.size ∧ W.cell? ⟨g, i, none⟩ = some (.int .i64 xs[i]) := by
  have hl := h.1
  rw [List.length_map] at hl
  rcases h.2 with ⟨h0, h1⟩ | ⟨g, cap, cur, h0, _, hg, h1, h2, h3, h4⟩
  · omega
  · cases h0
    refine ⟨g, rfl, (Array.getElem?_eq_some_iff.1 hg).1, (cell_of_row _ _ _ _ _ _ hg).trans ?_⟩
    have h5 : (cur.toList.take (n * 1))[i]? = some (.int .i64 xs[i]) := by rw [h4]; simp [hi]
    rw [List.getElem?_take, if_pos (by omega), Array.getElem?_toList] at h5
    exact h5
theorem ats_few (cs ms : List (Int × Int)) (k : Nat) : (atsOf cs ms k).length ≤ 501 := nums_few _ _
theorem flat_snoc (r : List Rw) (x : Rw) : (r ++ [x]).flatMap encRw = r.flatMap encRw ++ [.int .i64 (x.1 : Int), .int .i64 x.2] := by rw [List.flatMap_append]; rfl
theorem fits_succ (cs ms : List (Int × Int)) (k : Nat) : fitsUpto cs ms (k + 1) = fitsUpto cs ms k ++ rowsUpto cs ms k ms.length := by unfold fitsUpto; rw [List.range_succ, List.flatMap_append]; simp
theorem fits_le (cs ms : List (Int × Int)) : ∀ k, k ≤ cs.length → sheetErr cs ms = 0 → (fitsUpto cs ms k).length ≤ k * 501
  | 0, _, _ => Nat.zero_le _
  | k + 1, h, h0 => by
    have ih := fits_le cs ms k (by omega) h0
    have := ats_few cs ms k
    rw [fits_succ, List.length_append, rows_pairs h0 (by omega), List.length_map]
    omega

set_option maxRecDepth 100000 in
set_option maxHeartbeats 4000000 in
theorem refRows_any {A : Option Addr} {n c : Nat} {A' : Option Addr} {n' c' : Nat} {cs ms : List (Int × Int)} {w : World} (hb : IsSheet w w.heap.size A n c A' n' c' cs ms) (h0 : sheetErr cs ms = 0) :
    Calls Try.prog 48 #[.agg #[.slice A n c, .slice A' n' c']] w fun e w' => ∃ v, e = .returned v ∧ Ext w w' ∧ w'.ownsRow w.heap.size 27 2 v (fitsOf cs ms).length ((fitsOf cs ms).flatMap encRw) := by
  obtain ⟨i0, hi, hz0, hz1, hz2⟩ := info_parts info27c
  have HI := Lib.hid (And.intro hi (And.intro hz0 (And.intro hz1 hz2)))
  clear hi hz0 hz1 hz2
  have hX0 := SheetAt.new hb
  have hE0 : Ext w (w.alloc (.cells #[.slice A n c, .slice A' n' c'] 25)) := ext_alloc w _
  have hncs := hb.ncs
  have hn8 := (sheet_ok h0).1.1.2
  have HN := Lib.hid (And.intro hncs hn8)
  have H0 := Lib.hid h0
  clear hb hncs h0
  go_enter Try.func48, Try.ntmps48
  go_upto_region 1 with fail
  obtain ⟨w0, hw0⟩ : ∃ w0, w.alloc (.cells #[.slice A n c, .slice A' n' c'] 25) = w0 := ⟨_, rfl⟩
  rw [hw0] at hX0 hE0 ⊢
  obtain ⟨p, hp⟩ : ∃ p, w.heap.size = p := ⟨_, rfl⟩
  have HE0 := Lib.hid hE0
  rw [hp] at hX0 ⊢
  have HX0 := Lib.hid hX0
  have HP := Lib.hid hp
  clear hw0 hE0 hp hX0
  go_wp2_with (fail)
  go_loopw [3, 4] (fun v i wr => ∃ k : Nat, k ≤ n ∧ i = .int .i64 k ∧ Hid (Ext w0 wr) ∧ Hid (wr.ownsRow w0.heap.size 27 2 v (fitsUpto cs ms k).length ((fitsUpto cs ms k).flatMap encRw))) (fun _ i _ => n - (intOf i).toNat)
  case atStart => exact ⟨0, Nat.zero_le _, rfl, Lib.hid (Ext.refl _), Lib.hid (World.ownsRow_nil _ _ _ _)⟩
  case round =>
    obtain ⟨k, hk, rfl, hB, hO⟩ := hrel
    have hX := HX0.out.ext hB.out
    obtain ⟨q0, q1⟩ := hX.cells
    by_cases hlt : k < n
    · have hlz : (k : Int) < (n : Int) := by omega
      have hkl : k < cs.length := by have := HN.out.1; omega
      have h20 := refPlaces_any hX.sheet (k : Int)
      have hpe : placesErr cs ms (k : Int) = 0 := by
        unfold placesErr
        rw [if_pos H0.out, if_neg]
        unfold strange
        simp
        omega
      rw [hpe, Int.toNat_natCast] at h20
      clear hX hpe
      go_wp2_with (fail)
      refine h20.mono ?_
      rintro e w4 ⟨e4, ⟨h, _⟩ | ⟨_, v, rfl, hM⟩⟩
      · exact absurd rfl h
      · obtain ⟨A5, c5, hv⟩ := owns_slice hM.1
        subst hv
        have hf := fits_succ cs ms k
        rw [rows_pairs H0.out hkl] at hf
        have hal := ats_few cs ms k
        have hfl := fits_le cs ms k (by omega) H0.out
        obtain ⟨xs, hxs⟩ : ∃ xs, atsOf cs ms k = xs := ⟨_, rfl⟩
        obtain ⟨fs, hfs⟩ : ∃ fs, fitsUpto cs ms k = fs := ⟨_, rfl⟩
        rw [hxs] at hM hf hal ⊢
        rw [hfs] at hf hfl hO
        have HF := Lib.hid hf
        have HL := Lib.hid hM.1
        have HO4 := Lib.hid (owns_ext hO.out e4)
        have HE4 := Lib.hid (hB.out.trans e4)
        obtain ⟨B5, hB5⟩ : ∃ B5, wr.heap.size = B5 := ⟨_, rfl⟩
        rw [hB5] at HL
        have hk8 : k < 8 := by have := HN.out; omega
        clear hO hB h20 hM e4 hxs hfs hB5 q0 q1 hf
        go_wp2_with (fail)
        go_loopw [3, 7] (fun v i wr => ∃ j : Nat, j ≤ xs.length ∧ i = .int .i64 j ∧ Hid (Ext w0 wr) ∧ Hid (wr.ownsRow w0.heap.size 27 2 v (fs ++ (xs.take j).map fun x => (k, x)).length ((fs ++ (xs.take j).map fun x => (k, x)).flatMap encRw)) ∧ Hid (wr.ownsRow B5 2 1 (.slice A5 xs.length c5) xs.length (xs.map (Value.int .i64)))) (fun _ i _ => xs.length - (intOf i).toNat)
        case atStart => exact ⟨0, Nat.zero_le _, rfl, HE4, Lib.hid (by simpa using HO4.out), HL⟩
        case round =>
          obtain ⟨j, hj, rfl, hE5, hO5, hL5⟩ := hrel
          by_cases hjl : j < xs.length
          · have hjz : (j : Int) < (xs.length : Int) := by omega
            obtain ⟨g, rfl, hg, hc⟩ := long_at hL5.out hjl
            have hsu : fs ++ (xs.take (j + 1)).map (fun x => (k, x)) = (fs ++ (xs.take j).map fun x => (k, x)) ++ [(k, xs[j])] := by
              rw [List.take_succ_eq_append_getElem hjl, List.map_append, List.append_assoc]
              rfl
            have hlen : (fs ++ (xs.take j).map fun x => (k, x)).length ≤ fs.length + 501 := by simp; omega
            obtain ⟨x, hx⟩ : ∃ x, xs[j] = x := ⟨_, rfl⟩
            rw [hx] at hc hsu
            obtain ⟨rs, hrs⟩ : ∃ rs, (fs ++ (xs.take j).map fun x => (k, x)) = rs := ⟨_, rfl⟩
            rw [hrs] at hsu hO5 hlen
            have HSU := Lib.hid hsu
            have oA := hO5.out.alloc (.cells #[.int .i64 (k : Int), .int .i64 x] 27)
            have oL := hL5.out.alloc (.cells #[.int .i64 (k : Int), .int .i64 x] 27)
            have hcn := cells_new wr #[.int .i64 (k : Int), .int .i64 x] 27
            have hz1 := hE5.out.size
            have hrl : rs.length ≤ 8 * 501 + 501 := by omega
            clear hx hsu hrs hO5 hL5
            have hone : ∀ u ∈ [Value.int .i64 (k : Int), .int .i64 x], u.oneCell' = true := by
              intro u hu
              simp at hu
              rcases hu with rfl | rfl <;> rfl
            go_wp2_with (first | (at_builtin; refine wpList_append_own _ rfl (.tmp 27) (.tmp 34) 54 rfl w0.heap.size 27 i0 (.agg #[.int .i64 0, .int .i64 0]) 2 16 ?_ ?_ ?_ ?_ ?_ ?_ ?_ u3 _ (rs.flatMap encRw) rfl oA ⟨wr.heap.size, 0, none⟩ 1 1 [.int .i64 (k : Int), .int .i64 x] rfl ?_ ?_ ?_ ?_ ?_ ?_ ?_; exact Try.underlying54; exact HI.out.1; exact HI.out.2.1; exact HI.out.2.2.1; exact HI.out.2.2.2; rfl; decide; rfl; exact hcn; exact hone; (unfold maxLen; omega); omega; (simp; omega); intro v' w5 hown' hg5 _; have HW := Lib.hid hown'; have HL5 := Lib.hid (owns_opt oL hg5 (fun r hr => by obtain ⟨cs', fr, h⟩ := own_block oA r hr; exact ⟨_, _, _, h, by decide⟩)); have hE6 := Lib.hid (((hE5.out.alloc hz1 (.cells #[.int .i64 (k : Int), .int .i64 x] 27)).grown hg5 (by simp; omega) (fun b e => (oA.lt b e).1)) : Ext w0 w5); clear hown' hg5 oA oL))
            go_roundw
            case measure => simp [intOf]; omega
            case rel =>
              refine ⟨j + 1, by omega, by go_num, hE6, Lib.hid ?_, HL5⟩
              rw [HSU.out, flat_snoc, List.length_append]
              exact HW.out
          · have hjz : ¬ (j : Int) < (xs.length : Int) := by omega
            obtain rfl : j = xs.length := by omega
            have hO6 := hO5.out
            rw [List.take_length, ← HF.out] at hO6
            have HO6 := Lib.hid hO6
            clear hO5 hL5 hO6
            go_wp2
            go_roundw
            case measure => simp [intOf]; omega
            case rel => exact ⟨k + 1, by omega, by go_num, hE5, HO6⟩
    · have hlz : ¬ (k : Int) < (n : Int) := by omega
      obtain rfl : k = n := by omega
      have hO1 := hO.out
      rw [show fitsUpto cs ms k = fitsOf cs ms from by unfold fitsOf; rw [← HN.out.1]] at hO1
      have HO1 := Lib.hid (owns_mono hO1 HE0.out.size)
      have HE9 := Lib.hid (HE0.out.trans hB.out)
      clear hX hO hB hO1
      go_wp2
      go_ret
      exact ⟨_, rfl, HE9.out, HO1.out⟩
end Go.Proofs.Ytchmdkdiilaejaa

/- lost of the reference: the region that takes one more row's bits. -/
namespace Go.Proofs.Ytchmdkdiilaejaa
open Go.RowKit Go.Shelf

/-- The slots of region 6 of function 61. -/
def lo6D (i : Nat) : Tmp := if i = 0 then 14 else if i = 1 then 15 else if i = 2 then 16 else if i = 3 then 17 else if i = 4 then 18 else if i = 5 then 19 else if i = 6 then 20 else 21
/-- What each operation yields. -/
def lo6S (_p : Nat) (A : Option Addr) (n c : Nat) (A' : Option Addr) (n' c' g ln cl jj kk zz bt : Nat) (x : Int) (ix : Nat) (v : Value) (_W : World) : Prop :=
  match ix with
  | 0 => v = .int .i64 (zz : Int)
  | 1 => v = .agg #[.slice A n c, .slice A' n' c']
  | 2 => v = .slice (some ⟨g, 0, none⟩) ln cl
  | 3 => v = .int .i64 (jj : Int)
  | 4 => v = .pointer (some ⟨g, jj * 2, none⟩)
  | 5 => v = .agg #[.int .i64 (kk : Int), .int .i64 x]
  | 6 => v = .int .i64 (bt : Int)
  | 7 => v = .int .i64 ((zz ||| bt : Nat) : Int)
  | _ => True
noncomputable def lo6Reg : Array Oper := (Try.f61.body.bind (regionOf · 6)).getD #[]
theorem lo6S_ext {p : Nat} {A : Option Addr} {n c : Nat} {A' : Option Addr} {n' c' g ln cl jj kk zz bt : Nat} {x : Int} : ∀ (i : Nat) (v : Value) (W W' : World), lo6S p A n c A' n' c' g ln cl jj kk zz bt x i v W → Below W.heap.size W W' → lo6S p A n c A' n' c' g ln cl jj kk zz bt x i v W' := by
  intro i v W W' h e
  match i with
  | 0 => exact h
  | 1 => exact h
  | 2 => exact h
  | 3 => exact h
  | 4 => exact h
  | 5 => exact h
  | 6 => exact h
  | 7 => exact h
  | k + 8 => exact trivial
def lo6Ok (p : Nat) (A : Option Addr) (n c : Nat) (A' : Option Addr) (n' c' g ln cl jj kk zz bt : Nat) (x : Int) (Q : Exit → Act → World → Prop) (a : Act) (W : World) (ix : Nat) (o : Oper) : Prop :=
  (∀ j b, o.guard = some (j, b) → a.eval (.tmp (lo6D j)) = .bool b) ∧ o.wp Try.prog a W (fun a'' W' => ∃ v, a'' = a.put o.dst v ∧ lo6S p A n c A' n' c' g ln cl jj kk zz bt x ix v W' ∧ Below W.heap.size W W') Q
section
variable {p : Nat} {A : Option Addr} {n c : Nat} {A' : Option Addr} {n' c' g ln cl jj kk zz bt : Nat} {x : Int} {Q : Exit → Act → World → Prop} {a : Act} {V W : World} {o : Oper}
set_option maxHeartbeats 1000000 in
theorem lo6_op0 (o4 : a.eval (.tmp 4) = .int .i64 (zz : Int)) (ho : lo6Reg[0]? = some o) : lo6Ok p A n c A' n' c' g ln cl jj kk zz bt x Q a W 0 o := by
  have hop := op_at ho (·.op) (x := Op.move (Operand.tmp 4)) (by kernel_rfl)
  have hgd := op_at ho (·.guard) (x := none) (by kernel_rfl)
  refine ⟨fun j b h => (by rw [hgd] at h; cases h), ?_⟩
  exact specs_value (R := fun v W => lo6S p A n c A' n' c' g ln cl jj kk zz bt x 0 v W) (v := .int .i64 (zz : Int)) (by simp [execOp, hop, go_sem, ev o4]) rfl (Ext.refl W)
set_option maxHeartbeats 1000000 in
theorem lo6_op1 (o1 : a.eval (.tmp 1) = .pointer (some ⟨p, 0, none⟩)) (q0 : ∀ W, Ext V W → W.cell? ⟨p, 0, none⟩ = some (.slice A n c)) (q1 : ∀ W, Ext V W → W.cell? ⟨p, 1, none⟩ = some (.slice A' n' c')) (hB : Ext V W) (ho : lo6Reg[1]? = some o) : lo6Ok p A n c A' n' c' g ln cl jj kk zz bt x Q a W 1 o := by
  have hop := op_at ho (·.op) (x := Op.load 25 (Operand.tmp 1)) (by kernel_rfl)
  have hgd := op_at ho (·.guard) (x := none) (by kernel_rfl)
  refine ⟨fun j b h => (by rw [hgd] at h; cases h), ?_⟩
  have q0' := q0 W hB
  have q1' := q1 W hB
  exact specs_value (R := fun v W => lo6S p A n c A' n' c' g ln cl jj kk zz bt x 1 v W) (v := .agg #[.slice A n c, .slice A' n' c']) (by simp [execOp, hop, go_sem, ev o1, q0', q1']) rfl (Ext.refl W)
set_option maxHeartbeats 1000000 in
theorem lo6_op2 (o3 : a.eval (.tmp 3) = .slice (some ⟨g, 0, none⟩) ln cl) (ho : lo6Reg[2]? = some o) : lo6Ok p A n c A' n' c' g ln cl jj kk zz bt x Q a W 2 o := by
  have hop := op_at ho (·.op) (x := Op.move (Operand.tmp 3)) (by kernel_rfl)
  have hgd := op_at ho (·.guard) (x := none) (by kernel_rfl)
  refine ⟨fun j b h => (by rw [hgd] at h; cases h), ?_⟩
  exact specs_value (R := fun v W => lo6S p A n c A' n' c' g ln cl jj kk zz bt x 2 v W) (v := .slice (some ⟨g, 0, none⟩) ln cl) (by simp [execOp, hop, go_sem, ev o3]) rfl (Ext.refl W)
set_option maxHeartbeats 1000000 in
theorem lo6_op3 (o5 : a.eval (.tmp 5) = .int .i64 (jj : Int)) (ho : lo6Reg[3]? = some o) : lo6Ok p A n c A' n' c' g ln cl jj kk zz bt x Q a W 3 o := by
  have hop := op_at ho (·.op) (x := Op.move (Operand.tmp 5)) (by kernel_rfl)
  have hgd := op_at ho (·.guard) (x := none) (by kernel_rfl)
  refine ⟨fun j b h => (by rw [hgd] at h; cases h), ?_⟩
  exact specs_value (R := fun v W => lo6S p A n c A' n' c' g ln cl jj kk zz bt x 3 v W) (v := .int .i64 (jj : Int)) (by simp [execOp, hop, go_sem, ev o5]) rfl (Ext.refl W)
set_option maxHeartbeats 1000000 in
theorem lo6_op4 (hj : jj < ln) (haft : ∀ j, (o.after.any fun e => decide (e.on = j) && Region.binds .any e) = true → lo6S p A n c A' n' c' g ln cl jj kk zz bt x j (a.eval (.tmp (lo6D j))) W) (ho : lo6Reg[4]? = some o) : lo6Ok p A n c A' n' c' g ln cl jj kk zz bt x Q a W 4 o := by
  have hop := op_at ho (·.op) (x := Op.indexAddr 54 (Operand.tmp 16) (Operand.tmp 17)) (by kernel_rfl)
  have hgd := op_at ho (·.guard) (x := none) (by kernel_rfl)
  have e2 : a.eval (.tmp 16) = .slice (some ⟨g, 0, none⟩) ln cl := haft 2 (op_at ho (fun o => o.after.any fun e => decide (e.on = 2) && Region.binds .any e) (x := true) (by kernel_rfl))
  have e3 : a.eval (.tmp 17) = .int .i64 (jj : Int) := haft 3 (op_at ho (fun o => o.after.any fun e => decide (e.on = 3) && Region.binds .any e) (x := true) (by kernel_rfl))
  refine ⟨fun j b h => (by rw [hgd] at h; cases h), ?_⟩
  have hjz : (jj : Int) < (ln : Int) := by omega
  exact specs_value (R := fun v W => lo6S p A n c A' n' c' g ln cl jj kk zz bt x 4 v W) (v := .pointer (some ⟨g, jj * 2, none⟩)) (by simp [execOp, hop, go_sem, ev e2, ev e3, hjz]) rfl (Ext.refl W)
set_option maxHeartbeats 1000000 in
theorem lo6_op5 (c0 : ∀ W, Ext V W → W.cell? ⟨g, jj * 2, none⟩ = some (.int .i64 (kk : Int))) (c1 : ∀ W, Ext V W → W.cell? ⟨g, jj * 2 + 1, none⟩ = some (.int .i64 x)) (hB : Ext V W) (haft : ∀ j, (o.after.any fun e => decide (e.on = j) && Region.binds .any e) = true → lo6S p A n c A' n' c' g ln cl jj kk zz bt x j (a.eval (.tmp (lo6D j))) W) (ho : lo6Reg[5]? = some o) : lo6Ok p A n c A' n' c' g ln cl jj kk zz bt x Q a W 5 o := by
  have hop := op_at ho (·.op) (x := Op.load 27 (Operand.tmp 18)) (by kernel_rfl)
  have hgd := op_at ho (·.guard) (x := none) (by kernel_rfl)
  have e4 : a.eval (.tmp 18) = .pointer (some ⟨g, jj * 2, none⟩) := haft 4 (op_at ho (fun o => o.after.any fun e => decide (e.on = 4) && Region.binds .any e) (x := true) (by kernel_rfl))
  refine ⟨fun j b h => (by rw [hgd] at h; cases h), ?_⟩
  have c0' := c0 W hB
  have c1' := c1 W hB
  exact specs_value (R := fun v W => lo6S p A n c A' n' c' g ln cl jj kk zz bt x 5 v W) (v := .agg #[.int .i64 (kk : Int), .int .i64 x]) (by simp [execOp, hop, go_sem, ev e4, c0', c1']) rfl (Ext.refl W)
set_option maxHeartbeats 1000000 in
theorem lo6_op6 (hcall : ∀ W, Ext V W → Calls Try.prog 59 #[.agg #[.slice A n c, .slice A' n' c'], .agg #[.int .i64 (kk : Int), .int .i64 x]] W fun e w' => e = .returned (.int .i64 (bt : Int)) ∧ Ext W w') (hB : Ext V W) (haft : ∀ j, (o.after.any fun e => decide (e.on = j) && Region.binds .any e) = true → lo6S p A n c A' n' c' g ln cl jj kk zz bt x j (a.eval (.tmp (lo6D j))) W) (ho : lo6Reg[6]? = some o) : lo6Ok p A n c A' n' c' g ln cl jj kk zz bt x Q a W 6 o := by
  have hop := op_at ho (·.op) (x := Op.call { callee := Callee.value (Operand.func 59), args := #[Operand.tmp 15, Operand.tmp 19], argTypes := #[25, 27] }) (by kernel_rfl)
  have hgd := op_at ho (·.guard) (x := none) (by kernel_rfl)
  have e1 : a.eval (.tmp 15) = .agg #[.slice A n c, .slice A' n' c'] := haft 1 (op_at ho (fun o => o.after.any fun e => decide (e.on = 1) && Region.binds .any e) (x := true) (by kernel_rfl))
  have e5 : a.eval (.tmp 19) = .agg #[.int .i64 (kk : Int), .int .i64 x] := haft 5 (op_at ho (fun o => o.after.any fun e => decide (e.on = 5) && Region.binds .any e) (x := true) (by kernel_rfl))
  refine ⟨fun j b h => (by rw [hgd] at h; cases h), ?_⟩
  refine specs_call (R := fun v W => lo6S p A n c A' n' c' g ln cl jj kk zz bt x 6 v W) (f := 59) (args := #[.agg #[.slice A n c, .slice A' n' c'], .agg #[.int .i64 (kk : Int), .int .i64 x]]) (by simp [execOp, hop, go_sem, ev e1, ev e5]) ((hcall W hB).mono ?_)
  rintro e w' ⟨rfl, h3⟩
  exact ⟨_, rfl, rfl, h3⟩
set_option maxHeartbeats 1000000 in
theorem lo6_op7 (hor : bits .or .i64 (zz : Int) (bt : Int) = ((zz ||| bt : Nat) : Int)) (haft : ∀ j, (o.after.any fun e => decide (e.on = j) && Region.binds .any e) = true → lo6S p A n c A' n' c' g ln cl jj kk zz bt x j (a.eval (.tmp (lo6D j))) W) (ho : lo6Reg[7]? = some o) : lo6Ok p A n c A' n' c' g ln cl jj kk zz bt x Q a W 7 o := by
  have hop := op_at ho (·.op) (x := Op.binOp BinOp.or 3 (Operand.tmp 14) (Operand.tmp 20) 3) (by kernel_rfl)
  have hgd := op_at ho (·.guard) (x := none) (by kernel_rfl)
  have e0 : a.eval (.tmp 14) = .int .i64 (zz : Int) := haft 0 (op_at ho (fun o => o.after.any fun e => decide (e.on = 0) && Region.binds .any e) (x := true) (by kernel_rfl))
  have e6 : lo6S p A n c A' n' c' g ln cl jj kk zz bt x 6 (a.eval (.tmp 20)) W := haft 6 (op_at ho (fun o => o.after.any fun e => decide (e.on = 6) && Region.binds .any e) (x := true) (by kernel_rfl))
  refine ⟨fun j b h => (by rw [hgd] at h; cases h), ?_⟩
  have e6' : a.eval (.tmp 20) = .int .i64 (bt : Int) := e6
  exact specs_value (R := fun v W => lo6S p A n c A' n' c' g ln cl jj kk zz bt x 7 v W) (v := .int .i64 ((zz ||| bt : Nat) : Int)) (by simp [execOp, hop, go_sem, ev e0, ev e6', hor]) rfl (Ext.refl W)
set_option maxRecDepth 100000 in
set_option maxHeartbeats 4000000 in
/-- Region 6 of function 61. -/
theorem lo6_wp {id : Nat} (hlen : a.tmps.size = 30) (o1 : a.eval (.tmp 1) = .pointer (some ⟨p, 0, none⟩)) (o3 : a.eval (.tmp 3) = .slice (some ⟨g, 0, none⟩) ln cl) (o4 : a.eval (.tmp 4) = .int .i64 (zz : Int)) (o5 : a.eval (.tmp 5) = .int .i64 (jj : Int)) (q0 : ∀ W, Ext V W → W.cell? ⟨p, 0, none⟩ = some (.slice A n c)) (q1 : ∀ W, Ext V W → W.cell? ⟨p, 1, none⟩ = some (.slice A' n' c')) (hj : jj < ln) (c0 : ∀ W, Ext V W → W.cell? ⟨g, jj * 2, none⟩ = some (.int .i64 (kk : Int))) (c1 : ∀ W, Ext V W → W.cell? ⟨g, jj * 2 + 1, none⟩ = some (.int .i64 x)) (hcall : ∀ W, Ext V W → Calls Try.prog 59 #[.agg #[.slice A n c, .slice A' n' c'], .agg #[.int .i64 (kk : Int), .int .i64 x]] W fun e w' => e = .returned (.int .i64 (bt : Int)) ∧ Ext W w') (hor : bits .or .i64 (zz : Int) (bt : Int) = ((zz ||| bt : Nat) : Int)) (K : (∀ W v6, Ext V W → lo6S p A n c A' n' c' g ln cl jj kk zz bt x 6 v6 W → wpList Try.prog lo6Reg Q (lo6Reg.toList.drop 8) (puts a [(14, .int .i64 (zz : Int)), (15, .agg #[.slice A n c, .slice A' n' c']), (16, .slice (some ⟨g, 0, none⟩) ln cl), (17, .int .i64 (jj : Int)), (18, .pointer (some ⟨g, jj * 2, none⟩)), (19, .agg #[.int .i64 (kk : Int), .int .i64 x]), (20, v6), (21, .int .i64 ((zz ||| bt : Nat) : Int))]) W)) : (Code.region id lo6Reg true).wp Try.prog Q a V := by
  refine wp_region_specs_sink (ops := lo6Reg) 8 (lo6S p A n c A' n' c' g ln cl jj kk zz bt x) (Ext V) (by kernel_rfl) (by rw [hlen]; kernel_rfl) (by kernel_rfl) ⟨rfl, rfl, rfl, Nat.le_refl _, fun _ _ => rfl⟩ (fun _ _ h e => h.trans e) lo6S_ext lo6D (by kernel_rfl) ?_ ?_
  · intro i o hi ho a' W hB hsz hold haft
    match i, hi with
    | 0, _ => exact lo6_op0 ((hold 4 (by kernel_rfl)).trans o4) ho
    | 1, _ => exact lo6_op1 ((hold 1 (by kernel_rfl)).trans o1) q0 q1 hB ho
    | 2, _ => exact lo6_op2 ((hold 3 (by kernel_rfl)).trans o3) ho
    | 3, _ => exact lo6_op3 ((hold 5 (by kernel_rfl)).trans o5) ho
    | 4, _ => exact lo6_op4 hj haft ho
    | 5, _ => exact lo6_op5 c0 c1 hB haft ho
    | 6, _ => exact lo6_op6 hcall hB haft ho
    | 7, _ => exact lo6_op7 hor haft ho
    | m + 8, h => exact absurd h (by omega)
  · intro a1 W hB hsz hdf hold hS
    obtain ⟨v6, g6⟩ : ∃ v, v = a1.eval (.tmp 20) := ⟨_, rfl⟩
    have hall : ∀ z, z ∈ ([(14, .int .i64 (zz : Int)), (15, .agg #[.slice A n c, .slice A' n' c']), (16, .slice (some ⟨g, 0, none⟩) ln cl), (17, .int .i64 (jj : Int)), (18, .pointer (some ⟨g, jj * 2, none⟩)), (19, .agg #[.int .i64 (kk : Int), .int .i64 x]), (20, v6), (21, .int .i64 ((zz ||| bt : Nat) : Int))] : List (Tmp × Value)) → z.1 < a.tmps.size ∧ a1.eval (.tmp z.1) = z.2 := by
      intro z hz
      rw [hlen]
      simp only [List.mem_cons, List.not_mem_nil, or_false] at hz
      rcases hz with rfl | rfl | rfl | rfl | rfl | rfl | rfl | rfl
      · exact ⟨(show (14 : Nat) < 30 by omega), hS 0 (by omega)⟩
      · exact ⟨(show (15 : Nat) < 30 by omega), hS 1 (by omega)⟩
      · exact ⟨(show (16 : Nat) < 30 by omega), hS 2 (by omega)⟩
      · exact ⟨(show (17 : Nat) < 30 by omega), hS 3 (by omega)⟩
      · exact ⟨(show (18 : Nat) < 30 by omega), hS 4 (by omega)⟩
      · exact ⟨(show (19 : Nat) < 30 by omega), hS 5 (by omega)⟩
      · exact ⟨(show (20 : Nat) < 30 by omega), g6.symm⟩
      · exact ⟨(show (21 : Nat) < 30 by omega), hS 7 (by omega)⟩
    have ha := act_puts hsz hdf hall (fun t ht => hold t (all_ne_of (l := [(14, .int .i64 (zz : Int)), (15, .agg #[.slice A n c, .slice A' n' c']), (16, .slice (some ⟨g, 0, none⟩) ln cl), (17, .int .i64 (jj : Int)), (18, .pointer (some ⟨g, jj * 2, none⟩)), (19, .agg #[.int .i64 (kk : Int), .int .i64 x]), (20, v6), (21, .int .i64 ((zz ||| bt : Nat) : Int))]) (by kernel_rfl) ht))
    rw [ha]
    exact K W v6 hB (by rw [g6]; exact hS 6 (by omega))
end

theorem lo6_tail {a : Act} {W : World} {Q : Exit → Act → World → Prop} {r : Value} (e21 : a.eval (.tmp 21) = r) (K : Q .normal (a.put (some 4) r) W) : wpList Try.prog lo6Reg Q (lo6Reg.toList.drop 8) a W := by
  obtain ⟨o1, hdr, h1⟩ : ∃ o1, lo6Reg.toList.drop 8 = [o1] ∧ lo6Reg[8]? = some o1 := by
    have hs : lo6Reg.size = 9 := by kernel_rfl
    refine ⟨lo6Reg[8], ?_, by simp⟩
    rw [List.drop_eq_getElem_cons (by simp [hs]), List.drop_eq_nil_of_le (by simp [hs])]
    simp
  rw [hdr]
  have hop1 := op_at h1 (·.op) (x := Op.assign (Operand.tmp 21)) (by kernel_rfl)
  have hg1 := op_at h1 (·.guard) (x := none) (by kernel_rfl)
  have hd1 := op_at h1 (·.dst) (x := some 4) (by kernel_rfl)
  simp only [wpList]
  rw [if_pos (wanted_free hg1)]
  left
  have hr : (execOp a.eval o1).run Try.prog W = .ok (.value r) W := by simp [execOp, hop1, go_sem, ev e21]
  unfold Oper.wp
  rw [hr]
  show Q .normal (a.put o1.dst r) W
  rw [hd1]
  exact K
end Go.Proofs.Ytchmdkdiilaejaa
