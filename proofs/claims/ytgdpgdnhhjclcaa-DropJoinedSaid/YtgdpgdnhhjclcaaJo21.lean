/- Texts of the package drop, joined: TouchWalls, RefKind, RefTouch, RefAlone. -/
import Derived.Test.YtgdpgdnhhjclcaaJo20
import Derived.Deep.Cut
/- The reference's Touches: whether two places touch, in a truth. -/
namespace Go.Proofs.Ytgdpgdnhhjclcaa
open Go.RowKit Go.Shelf

section
variable {w : World} {Wd : Int} {A : Option Addr} {n c : Nat} {A' : Option Addr} {n' c' : Nat} {ss : List (Int × Int)} {ds : List (Int × Int × Int)}

theorem spot_bd (h0 : Few Wd ss ds) {i : Nat} (hi : i < ss.length) {X Y : Int} (h : ss.getD i (0, 0) = (X, Y)) : 1 ≤ X ∧ X ≤ Wd - 1 ∧ 0 ≤ Y ∧ Y ≤ 1000 ∧ Wd ≤ 1000 := by
  have e : ss[i] = (X, Y) := by rw [← h]; simp [List.getElem?_eq_getElem hi]
  have h1 := List.all_eq_true.1 h0.spots ss[i] (List.getElem_mem hi)
  rw [e] at h1
  simp only [spotOk, inside, Bool.and_eq_true, decide_eq_true_eq, List.all_cons, List.all_nil] at h1
  have := h0.wide
  omega

set_option maxHeartbeats 400000 in
theorem touches_none (T : Option Addr) (m cT : Nat) (one two : Int) (h1 : one < 0) (h2 : two < 0) :
    Calls Try.prog 46 #[.agg #[.int .i64 Wd, .slice A n c, .slice A' n' c'], .slice T m cT, .int .i64 one, .int .i64 two] w fun e w' => e = .returned (.bool false) ∧ Ext w w' := by
  go_enter Try.func46, Try.ntmps46
  go_wp2
  go_ret
  exact ⟨rfl, ext_alloc w _⟩
theorem sq_comm (a b : Int) : (a - b) * (a - b) = (b - a) * (b - a) := by rw [← Int.neg_mul_neg]; simp [Int.neg_sub]
theorem reachB_comm (a c d : Int) : reachB a c d = reachB c a d := by
  unfold reachB
  by_cases h1 : a = 0 <;> by_cases h2 : c = 0 <;> simp [h1, h2]
  rw [show d - c - a = d - a - c from by omega, show 4 * c * a = 4 * a * c from by rw [Int.mul_assoc, Int.mul_comm c a, Int.mul_assoc]]

set_option maxRecDepth 100000 in
set_option maxHeartbeats 4000000 in
theorem touches_ns_l (T : Option Addr) (m cT : Nat) (ts : List Int) (h0 : Few Wd ss ds) (hb : IsBath w w.heap.size A n c A' n' c' ss ds) (hm : m = ts.length) (hmn : n' ≤ m) (hmm : m ≤ 9223372036854775807) (ht : Held w w.heap.size 1 encI T ts) (hbd : ∀ k, 0 ≤ ts.getD k 0 ∧ ts.getD k 0 ≤ 10000) (i : Nat) (hi : i < n) :
    Calls Try.prog 46 #[.agg #[.int .i64 Wd, .slice A n c, .slice A' n' c'], .slice T m cT, .int .i64 (i : Int), .int .i64 (-1)] w fun e w' => e = .returned (.bool (meetB Wd ss (fun j => sumAt ds ts j n') (-1) i)) ∧ Ext w w' := by
  have h100 : n' ≤ 100 := by have := h0.many.2; have := hb.nds; omega
  have hiN : i < n := hi
  have hin : (i : Int) < (n : Int) := by omega
  have hi0 : decide ((i : Int) < 0) = false := by simp
  have h00 := BathAt.new (Wd := Wd) hb
  obtain ⟨b, off, rfl, _, _⟩ := h00.spot hi
  obtain ⟨X, Y, hiXY⟩ : ∃ X Y, ss.getD i (0, 0) = (X, Y) := ⟨_, _, rfl⟩
  obtain ⟨bx1, bx2, by1, by2, bw⟩ := spot_bd h0 (by rw [← hb.nss]; exact hi) hiXY
  obtain ⟨s, hs⟩ : ∃ s, sumAt ds ts i n' = s := ⟨_, rfl⟩
  have hsb := sumAt_bd ds ts i hbd n'
  rw [hs] at hsb
  obtain ⟨bs1, bs2⟩ := hsb
  have bs3 : s ≤ 1000000 := by omega
  have hres : meetB Wd ss (fun j => sumAt ds ts j n') (-1) i = decide (X * X ≤ s) := by rw [meetB_left, hiXY]; simp only [hs]
  rw [hres]
  clear hres
  have bm := mul_bd (a := X) (b := X) (M := 1000) (N := 1000) (by omega) (by omega) (by omega) (by omega)
  have bm1 : 1 ≤ X * X := by have := Int.mul_le_mul (a := 1) (b := 1) (c := X) (d := X) (by omega) (by omega) (by omega) (by omega); omega
  obtain ⟨w0, hw0⟩ : ∃ w0, w.alloc (.cells #[.int .i64 Wd, .slice (some ⟨b, off, none⟩) n c, .slice A' n' c'] 25) = w0 := ⟨_, rfl⟩
  have e0 : Ext w w0 := by rw [← hw0]; exact ext_alloc w _
  rw [hw0] at h00
  have HW := Lib.hid hw0
  have HX := Lib.hid h00
  have HT := Lib.hid ht
  have HV5 := Lib.hid e0
  clear hw0 h00 ht e0 hb h0
  go_enter Try.func46, Try.ntmps46
  go_upto_region 5 with fail
  rw [HW.out]
  clear HW
  generalize w.heap.size = p0 at HX ⊢
  refine wp_region_specs_free (ops := touchReg5) 11 (sizeSpotS Wd b off n c A' n' c' T m cT i s X Y p0 w0.heap.size) (Ext w0) (by kernel_rfl) (by kernel_rfl) (by kernel_rfl) ⟨rfl, rfl, rfl, Nat.le_refl _, fun _ _ => rfl⟩ (fun _ _ h e => h.trans e) (sizeSpotS_ext Wd b off n c A' n' c' T m cT i s X Y p0 w0.heap.size) touchD5 (by kernel_rfl) ?_ ?_
  · intro k o hk ho a W hB hsz hold haft
    match k, hk with
    | 0, _ => exact touch5_op0 (hold 4 (by kernel_rfl)) HX.out ho hB haft
    | 1, _ => exact touch5_op1 (hold 1 (by kernel_rfl)) ho hB haft
    | 2, _ => exact touch5_op2 (hold 2 (by kernel_rfl)) ho hB haft
    | 3, _ => exact touch5_op3 HX.out h100 hm hmn hmm (HT.out.ext HV5.out) hbd hs ho hB haft
    | 4, _ => exact touch5_op4 (hold 4 (by kernel_rfl)) ho hB haft
    | 5, _ => exact touch5_op5 (hold 4 (by kernel_rfl)) HX.out ho hB haft
    | 6, _ => exact touch5_op6 (hold 2 (by kernel_rfl)) ho hB haft
    | 7, _ => exact touch5_op7 hin ho hB haft
    | 8, _ => exact touch5_op8 HX.out hiN hiXY ho hB haft
    | 9, _ => exact touch5_op9 (Nat.le_refl _) ho hB haft
    | 10, _ => exact touch5_op10  ho hB haft
    | k + 11, h => exact absurd h (by omega)
  · intro a W hB hsz hdf hold hS
    obtain ⟨g, e9, hN, hr⟩ : ∃ g, a.eval (.tmp 10) = .pointer (some ⟨g, 0, none⟩) ∧ w0.heap.size ≤ g ∧ W.heap[g]? = some (.cells #[.int .i64 0, .int .i64 0] 74 (0, 0)) := hS 9 (by omega)
    have hall : ∀ x, x ∈ ([(24, .agg #[.int .i64 Wd, .slice (some ⟨b, off, none⟩) n c, .slice A' n' c']), (25, .slice T m cT), (26, .int .i64 (i : Int)), (27, .int .i64 s), (28, .pointer (some ⟨p0, 1, none⟩)), (29, .slice (some ⟨b, off, none⟩) n c), (30, .int .i64 (i : Int)), (31, .pointer (some ⟨b, off + i * 2, none⟩)), (32, .agg #[.int .i64 X, .int .i64 Y]), (10, .pointer (some ⟨g, 0, none⟩)), (9, .int .i64 s)] : List (Tmp × Value)) → x.1 < 116 ∧ a.eval (.tmp x.1) = x.2 := by
      intro x hx
      simp only [List.mem_cons, List.not_mem_nil, or_false] at hx
      rcases hx with rfl | rfl | rfl | rfl | rfl | rfl | rfl | rfl | rfl | rfl | rfl
      · exact ⟨(show (24 : Nat) < 116 by omega), hS 0 (by omega)⟩
      · exact ⟨(show (25 : Nat) < 116 by omega), hS 1 (by omega)⟩
      · exact ⟨(show (26 : Nat) < 116 by omega), hS 2 (by omega)⟩
      · exact ⟨(show (27 : Nat) < 116 by omega), hS 3 (by omega)⟩
      · exact ⟨(show (28 : Nat) < 116 by omega), hS 4 (by omega)⟩
      · exact ⟨(show (29 : Nat) < 116 by omega), hS 5 (by omega)⟩
      · exact ⟨(show (30 : Nat) < 116 by omega), hS 6 (by omega)⟩
      · exact ⟨(show (31 : Nat) < 116 by omega), hS 7 (by omega)⟩
      · exact ⟨(show (32 : Nat) < 116 by omega), hS 8 (by omega)⟩
      · exact ⟨(show (10 : Nat) < 116 by omega), e9⟩
      · exact ⟨(show (9 : Nat) < 116 by omega), hS 10 (by omega)⟩
    have ha := act_puts hsz hdf hall (fun t ht => hold t (all_ne_of (l := [(24, .agg #[.int .i64 Wd, .slice (some ⟨b, off, none⟩) n c, .slice A' n' c']), (25, .slice T m cT), (26, .int .i64 (i : Int)), (27, .int .i64 s), (28, .pointer (some ⟨p0, 1, none⟩)), (29, .slice (some ⟨b, off, none⟩) n c), (30, .int .i64 (i : Int)), (31, .pointer (some ⟨b, off + i * 2, none⟩)), (32, .agg #[.int .i64 X, .int .i64 Y]), (10, .pointer (some ⟨g, 0, none⟩)), (9, .int .i64 s)]) (by kernel_rfl) ht))
    have e8 : a.eval (.tmp 32) = .agg #[.int .i64 X, .int .i64 Y] := hS 8 (by omega)
    clear hall hS hold hsz hdf
    obtain ⟨o11, hdr, h11⟩ := drop_one (ops := touchReg5) (k := 11) (by kernel_rfl)
    rw [hdr]
    refine wpList_store_row (op_at h11 (·.guard) (x := none) (by kernel_rfl)) 74 (.tmp 10) (.tmp 32) (op_at h11 (·.op) (by kernel_rfl)) g #[.int .i64 X, .int .i64 Y] e9 e8 74 _ hr (by kernel_rfl) rfl (by simp [Value.oneCell']) ?_
    rw [show o11.dst = none from op_at h11 (·.dst) (by kernel_rfl)]
    clear hdr h11
    obtain ⟨W5, hW, hg5, hE5⟩ : ∃ W', W.setRow g #[.int .i64 X, .int .i64 Y] = W' ∧ W'.heap[g]? = some (.cells #[.int .i64 X, .int .i64 Y] 74 (0, 0)) ∧ Ext w0 W' := ⟨_, rfl, row_setRow _ _ _ _ _ _ hr, below_setRow hB hN _⟩
    rw [hW]
    clear hW hr hN hB e8 e9
    show Exit.then _ _ _ a _
    rw [ha]
    clear ha
    simp only [Exit.then, puts, List.foldl_cons, List.foldl_nil, Act.put, List.setIfInBounds_toArray, List.set_cons_succ, List.set_cons_zero]
    go_at_K
    obtain ⟨q0, q1, q2⟩ := (HX.out.ext hE5).cells
    have g0 := cell_of_row _ _ 0 _ _ _ hg5
    have g1 := cell_of_row _ _ 1 _ _ _ hg5
    simp at g0 g1
    have HE := Lib.hid (HV5.out.trans hE5)
    clear HX HV5 HT hE5 hg5 hbd hs hiXY
    by_cases hz : s = 0
    · subst hz
      go_wp2
      go_ret
      exact ⟨ret_bool (by simp; omega), HE.out⟩
    · have hz2 : (s == 0) = false := by simp [hz]
      go_wp2
      go_ret
      exact ⟨ret_bool (by simp), HE.out⟩
set_option maxRecDepth 100000 in
set_option maxHeartbeats 4000000 in
theorem touches_ns_r (T : Option Addr) (m cT : Nat) (ts : List Int) (h0 : Few Wd ss ds) (hb : IsBath w w.heap.size A n c A' n' c' ss ds) (hm : m = ts.length) (hmn : n' ≤ m) (hmm : m ≤ 9223372036854775807) (ht : Held w w.heap.size 1 encI T ts) (hbd : ∀ k, 0 ≤ ts.getD k 0 ∧ ts.getD k 0 ≤ 10000) (i : Nat) (hi : i < n) :
    Calls Try.prog 46 #[.agg #[.int .i64 Wd, .slice A n c, .slice A' n' c'], .slice T m cT, .int .i64 (i : Int), .int .i64 (-2)] w fun e w' => e = .returned (.bool (meetB Wd ss (fun j => sumAt ds ts j n') (-2) i)) ∧ Ext w w' := by
  have h100 : n' ≤ 100 := by have := h0.many.2; have := hb.nds; omega
  have hiN : i < n := hi
  have hin : (i : Int) < (n : Int) := by omega
  have hi0 : decide ((i : Int) < 0) = false := by simp
  have h00 := BathAt.new (Wd := Wd) hb
  obtain ⟨b, off, rfl, _, _⟩ := h00.spot hi
  obtain ⟨X, Y, hiXY⟩ : ∃ X Y, ss.getD i (0, 0) = (X, Y) := ⟨_, _, rfl⟩
  obtain ⟨bx1, bx2, by1, by2, bw⟩ := spot_bd h0 (by rw [← hb.nss]; exact hi) hiXY
  obtain ⟨s, hs⟩ : ∃ s, sumAt ds ts i n' = s := ⟨_, rfl⟩
  have hsb := sumAt_bd ds ts i hbd n'
  rw [hs] at hsb
  obtain ⟨bs1, bs2⟩ := hsb
  have bs3 : s ≤ 1000000 := by omega
  have hres : meetB Wd ss (fun j => sumAt ds ts j n') (-2) i = decide ((Wd - X) * (Wd - X) ≤ s) := by rw [meetB_right, hiXY]; simp only [hs]
  rw [hres]
  clear hres
  have bm := mul_bd (a := (Wd - X)) (b := (Wd - X)) (M := 1000) (N := 1000) (by omega) (by omega) (by omega) (by omega)
  have bm1 : 1 ≤ (Wd - X) * (Wd - X) := by have := Int.mul_le_mul (a := 1) (b := 1) (c := (Wd - X)) (d := (Wd - X)) (by omega) (by omega) (by omega) (by omega); omega
  obtain ⟨w0, hw0⟩ : ∃ w0, w.alloc (.cells #[.int .i64 Wd, .slice (some ⟨b, off, none⟩) n c, .slice A' n' c'] 25) = w0 := ⟨_, rfl⟩
  have e0 : Ext w w0 := by rw [← hw0]; exact ext_alloc w _
  rw [hw0] at h00
  have HW := Lib.hid hw0
  have HX := Lib.hid h00
  have HT := Lib.hid ht
  have HV5 := Lib.hid e0
  clear hw0 h00 ht e0 hb h0
  go_enter Try.func46, Try.ntmps46
  go_upto_region 5 with fail
  rw [HW.out]
  clear HW
  generalize w.heap.size = p0 at HX ⊢
  refine wp_region_specs_free (ops := touchReg5) 11 (sizeSpotS Wd b off n c A' n' c' T m cT i s X Y p0 w0.heap.size) (Ext w0) (by kernel_rfl) (by kernel_rfl) (by kernel_rfl) ⟨rfl, rfl, rfl, Nat.le_refl _, fun _ _ => rfl⟩ (fun _ _ h e => h.trans e) (sizeSpotS_ext Wd b off n c A' n' c' T m cT i s X Y p0 w0.heap.size) touchD5 (by kernel_rfl) ?_ ?_
  · intro k o hk ho a W hB hsz hold haft
    match k, hk with
    | 0, _ => exact touch5_op0 (hold 4 (by kernel_rfl)) HX.out ho hB haft
    | 1, _ => exact touch5_op1 (hold 1 (by kernel_rfl)) ho hB haft
    | 2, _ => exact touch5_op2 (hold 2 (by kernel_rfl)) ho hB haft
    | 3, _ => exact touch5_op3 HX.out h100 hm hmn hmm (HT.out.ext HV5.out) hbd hs ho hB haft
    | 4, _ => exact touch5_op4 (hold 4 (by kernel_rfl)) ho hB haft
    | 5, _ => exact touch5_op5 (hold 4 (by kernel_rfl)) HX.out ho hB haft
    | 6, _ => exact touch5_op6 (hold 2 (by kernel_rfl)) ho hB haft
    | 7, _ => exact touch5_op7 hin ho hB haft
    | 8, _ => exact touch5_op8 HX.out hiN hiXY ho hB haft
    | 9, _ => exact touch5_op9 (Nat.le_refl _) ho hB haft
    | 10, _ => exact touch5_op10  ho hB haft
    | k + 11, h => exact absurd h (by omega)
  · intro a W hB hsz hdf hold hS
    obtain ⟨g, e9, hN, hr⟩ : ∃ g, a.eval (.tmp 10) = .pointer (some ⟨g, 0, none⟩) ∧ w0.heap.size ≤ g ∧ W.heap[g]? = some (.cells #[.int .i64 0, .int .i64 0] 74 (0, 0)) := hS 9 (by omega)
    have hall : ∀ x, x ∈ ([(24, .agg #[.int .i64 Wd, .slice (some ⟨b, off, none⟩) n c, .slice A' n' c']), (25, .slice T m cT), (26, .int .i64 (i : Int)), (27, .int .i64 s), (28, .pointer (some ⟨p0, 1, none⟩)), (29, .slice (some ⟨b, off, none⟩) n c), (30, .int .i64 (i : Int)), (31, .pointer (some ⟨b, off + i * 2, none⟩)), (32, .agg #[.int .i64 X, .int .i64 Y]), (10, .pointer (some ⟨g, 0, none⟩)), (9, .int .i64 s)] : List (Tmp × Value)) → x.1 < 116 ∧ a.eval (.tmp x.1) = x.2 := by
      intro x hx
      simp only [List.mem_cons, List.not_mem_nil, or_false] at hx
      rcases hx with rfl | rfl | rfl | rfl | rfl | rfl | rfl | rfl | rfl | rfl | rfl
      · exact ⟨(show (24 : Nat) < 116 by omega), hS 0 (by omega)⟩
      · exact ⟨(show (25 : Nat) < 116 by omega), hS 1 (by omega)⟩
      · exact ⟨(show (26 : Nat) < 116 by omega), hS 2 (by omega)⟩
      · exact ⟨(show (27 : Nat) < 116 by omega), hS 3 (by omega)⟩
      · exact ⟨(show (28 : Nat) < 116 by omega), hS 4 (by omega)⟩
      · exact ⟨(show (29 : Nat) < 116 by omega), hS 5 (by omega)⟩
      · exact ⟨(show (30 : Nat) < 116 by omega), hS 6 (by omega)⟩
      · exact ⟨(show (31 : Nat) < 116 by omega), hS 7 (by omega)⟩
      · exact ⟨(show (32 : Nat) < 116 by omega), hS 8 (by omega)⟩
      · exact ⟨(show (10 : Nat) < 116 by omega), e9⟩
      · exact ⟨(show (9 : Nat) < 116 by omega), hS 10 (by omega)⟩
    have ha := act_puts hsz hdf hall (fun t ht => hold t (all_ne_of (l := [(24, .agg #[.int .i64 Wd, .slice (some ⟨b, off, none⟩) n c, .slice A' n' c']), (25, .slice T m cT), (26, .int .i64 (i : Int)), (27, .int .i64 s), (28, .pointer (some ⟨p0, 1, none⟩)), (29, .slice (some ⟨b, off, none⟩) n c), (30, .int .i64 (i : Int)), (31, .pointer (some ⟨b, off + i * 2, none⟩)), (32, .agg #[.int .i64 X, .int .i64 Y]), (10, .pointer (some ⟨g, 0, none⟩)), (9, .int .i64 s)]) (by kernel_rfl) ht))
    have e8 : a.eval (.tmp 32) = .agg #[.int .i64 X, .int .i64 Y] := hS 8 (by omega)
    clear hall hS hold hsz hdf
    obtain ⟨o11, hdr, h11⟩ := drop_one (ops := touchReg5) (k := 11) (by kernel_rfl)
    rw [hdr]
    refine wpList_store_row (op_at h11 (·.guard) (x := none) (by kernel_rfl)) 74 (.tmp 10) (.tmp 32) (op_at h11 (·.op) (by kernel_rfl)) g #[.int .i64 X, .int .i64 Y] e9 e8 74 _ hr (by kernel_rfl) rfl (by simp [Value.oneCell']) ?_
    rw [show o11.dst = none from op_at h11 (·.dst) (by kernel_rfl)]
    clear hdr h11
    obtain ⟨W5, hW, hg5, hE5⟩ : ∃ W', W.setRow g #[.int .i64 X, .int .i64 Y] = W' ∧ W'.heap[g]? = some (.cells #[.int .i64 X, .int .i64 Y] 74 (0, 0)) ∧ Ext w0 W' := ⟨_, rfl, row_setRow _ _ _ _ _ _ hr, below_setRow hB hN _⟩
    rw [hW]
    clear hW hr hN hB e8 e9
    show Exit.then _ _ _ a _
    rw [ha]
    clear ha
    simp only [Exit.then, puts, List.foldl_cons, List.foldl_nil, Act.put, List.setIfInBounds_toArray, List.set_cons_succ, List.set_cons_zero]
    go_at_K
    obtain ⟨q0, q1, q2⟩ := (HX.out.ext hE5).cells
    have g0 := cell_of_row _ _ 0 _ _ _ hg5
    have g1 := cell_of_row _ _ 1 _ _ _ hg5
    simp at g0 g1
    have HE := Lib.hid (HV5.out.trans hE5)
    clear HX HV5 HT hE5 hg5 hbd hs hiXY
    by_cases hz : s = 0
    · subst hz
      go_wp2
      go_ret
      exact ⟨ret_bool (by simp; omega), HE.out⟩
    · have hz2 : (s == 0) = false := by simp [hz]
      go_wp2
      go_ret
      exact ⟨ret_bool (by simp), HE.out⟩
set_option maxRecDepth 100000 in
set_option maxHeartbeats 4000000 in
theorem touches_sw_l (T : Option Addr) (m cT : Nat) (ts : List Int) (h0 : Few Wd ss ds) (hb : IsBath w w.heap.size A n c A' n' c' ss ds) (hm : m = ts.length) (hmn : n' ≤ m) (hmm : m ≤ 9223372036854775807) (ht : Held w w.heap.size 1 encI T ts) (hbd : ∀ k, 0 ≤ ts.getD k 0 ∧ ts.getD k 0 ≤ 10000) (i : Nat) (hi : i < n) :
    Calls Try.prog 46 #[.agg #[.int .i64 Wd, .slice A n c, .slice A' n' c'], .slice T m cT, .int .i64 (-1), .int .i64 (i : Int)] w fun e w' => e = .returned (.bool (meetB Wd ss (fun j => sumAt ds ts j n') (-1) i)) ∧ Ext w w' := by
  have h100 : n' ≤ 100 := by have := h0.many.2; have := hb.nds; omega
  have hiN : i < n := hi
  have hin : (i : Int) < (n : Int) := by omega
  have hi0 : decide ((i : Int) < 0) = false := by simp
  have h00 := BathAt.new (Wd := Wd) hb
  obtain ⟨b, off, rfl, _, _⟩ := h00.spot hi
  obtain ⟨X, Y, hiXY⟩ : ∃ X Y, ss.getD i (0, 0) = (X, Y) := ⟨_, _, rfl⟩
  obtain ⟨bx1, bx2, by1, by2, bw⟩ := spot_bd h0 (by rw [← hb.nss]; exact hi) hiXY
  obtain ⟨s, hs⟩ : ∃ s, sumAt ds ts i n' = s := ⟨_, rfl⟩
  have hsb := sumAt_bd ds ts i hbd n'
  rw [hs] at hsb
  obtain ⟨bs1, bs2⟩ := hsb
  have bs3 : s ≤ 1000000 := by omega
  have hres : meetB Wd ss (fun j => sumAt ds ts j n') (-1) i = decide (X * X ≤ s) := by rw [meetB_left, hiXY]; simp only [hs]
  rw [hres]
  clear hres
  have bm := mul_bd (a := X) (b := X) (M := 1000) (N := 1000) (by omega) (by omega) (by omega) (by omega)
  have bm1 : 1 ≤ X * X := by have := Int.mul_le_mul (a := 1) (b := 1) (c := X) (d := X) (by omega) (by omega) (by omega) (by omega); omega
  obtain ⟨w0, hw0⟩ : ∃ w0, w.alloc (.cells #[.int .i64 Wd, .slice (some ⟨b, off, none⟩) n c, .slice A' n' c'] 25) = w0 := ⟨_, rfl⟩
  have e0 : Ext w w0 := by rw [← hw0]; exact ext_alloc w _
  rw [hw0] at h00
  have HW := Lib.hid hw0
  have HX := Lib.hid h00
  have HT := Lib.hid ht
  have HV5 := Lib.hid e0
  clear hw0 h00 ht e0 hb h0
  go_enter Try.func46, Try.ntmps46
  go_upto_region 5 with fail
  rw [HW.out]
  clear HW
  generalize w.heap.size = p0 at HX ⊢
  refine wp_region_specs_free (ops := touchReg5) 11 (sizeSpotS Wd b off n c A' n' c' T m cT i s X Y p0 w0.heap.size) (Ext w0) (by kernel_rfl) (by kernel_rfl) (by kernel_rfl) ⟨rfl, rfl, rfl, Nat.le_refl _, fun _ _ => rfl⟩ (fun _ _ h e => h.trans e) (sizeSpotS_ext Wd b off n c A' n' c' T m cT i s X Y p0 w0.heap.size) touchD5 (by kernel_rfl) ?_ ?_
  · intro k o hk ho a W hB hsz hold haft
    match k, hk with
    | 0, _ => exact touch5_op0 (hold 4 (by kernel_rfl)) HX.out ho hB haft
    | 1, _ => exact touch5_op1 (hold 1 (by kernel_rfl)) ho hB haft
    | 2, _ => exact touch5_op2 (hold 2 (by kernel_rfl)) ho hB haft
    | 3, _ => exact touch5_op3 HX.out h100 hm hmn hmm (HT.out.ext HV5.out) hbd hs ho hB haft
    | 4, _ => exact touch5_op4 (hold 4 (by kernel_rfl)) ho hB haft
    | 5, _ => exact touch5_op5 (hold 4 (by kernel_rfl)) HX.out ho hB haft
    | 6, _ => exact touch5_op6 (hold 2 (by kernel_rfl)) ho hB haft
    | 7, _ => exact touch5_op7 hin ho hB haft
    | 8, _ => exact touch5_op8 HX.out hiN hiXY ho hB haft
    | 9, _ => exact touch5_op9 (Nat.le_refl _) ho hB haft
    | 10, _ => exact touch5_op10  ho hB haft
    | k + 11, h => exact absurd h (by omega)
  · intro a W hB hsz hdf hold hS
    obtain ⟨g, e9, hN, hr⟩ : ∃ g, a.eval (.tmp 10) = .pointer (some ⟨g, 0, none⟩) ∧ w0.heap.size ≤ g ∧ W.heap[g]? = some (.cells #[.int .i64 0, .int .i64 0] 74 (0, 0)) := hS 9 (by omega)
    have hall : ∀ x, x ∈ ([(24, .agg #[.int .i64 Wd, .slice (some ⟨b, off, none⟩) n c, .slice A' n' c']), (25, .slice T m cT), (26, .int .i64 (i : Int)), (27, .int .i64 s), (28, .pointer (some ⟨p0, 1, none⟩)), (29, .slice (some ⟨b, off, none⟩) n c), (30, .int .i64 (i : Int)), (31, .pointer (some ⟨b, off + i * 2, none⟩)), (32, .agg #[.int .i64 X, .int .i64 Y]), (10, .pointer (some ⟨g, 0, none⟩)), (9, .int .i64 s)] : List (Tmp × Value)) → x.1 < 116 ∧ a.eval (.tmp x.1) = x.2 := by
      intro x hx
      simp only [List.mem_cons, List.not_mem_nil, or_false] at hx
      rcases hx with rfl | rfl | rfl | rfl | rfl | rfl | rfl | rfl | rfl | rfl | rfl
      · exact ⟨(show (24 : Nat) < 116 by omega), hS 0 (by omega)⟩
      · exact ⟨(show (25 : Nat) < 116 by omega), hS 1 (by omega)⟩
      · exact ⟨(show (26 : Nat) < 116 by omega), hS 2 (by omega)⟩
      · exact ⟨(show (27 : Nat) < 116 by omega), hS 3 (by omega)⟩
      · exact ⟨(show (28 : Nat) < 116 by omega), hS 4 (by omega)⟩
      · exact ⟨(show (29 : Nat) < 116 by omega), hS 5 (by omega)⟩
      · exact ⟨(show (30 : Nat) < 116 by omega), hS 6 (by omega)⟩
      · exact ⟨(show (31 : Nat) < 116 by omega), hS 7 (by omega)⟩
      · exact ⟨(show (32 : Nat) < 116 by omega), hS 8 (by omega)⟩
      · exact ⟨(show (10 : Nat) < 116 by omega), e9⟩
      · exact ⟨(show (9 : Nat) < 116 by omega), hS 10 (by omega)⟩
    have ha := act_puts hsz hdf hall (fun t ht => hold t (all_ne_of (l := [(24, .agg #[.int .i64 Wd, .slice (some ⟨b, off, none⟩) n c, .slice A' n' c']), (25, .slice T m cT), (26, .int .i64 (i : Int)), (27, .int .i64 s), (28, .pointer (some ⟨p0, 1, none⟩)), (29, .slice (some ⟨b, off, none⟩) n c), (30, .int .i64 (i : Int)), (31, .pointer (some ⟨b, off + i * 2, none⟩)), (32, .agg #[.int .i64 X, .int .i64 Y]), (10, .pointer (some ⟨g, 0, none⟩)), (9, .int .i64 s)]) (by kernel_rfl) ht))
    have e8 : a.eval (.tmp 32) = .agg #[.int .i64 X, .int .i64 Y] := hS 8 (by omega)
    clear hall hS hold hsz hdf
    obtain ⟨o11, hdr, h11⟩ := drop_one (ops := touchReg5) (k := 11) (by kernel_rfl)
    rw [hdr]
    refine wpList_store_row (op_at h11 (·.guard) (x := none) (by kernel_rfl)) 74 (.tmp 10) (.tmp 32) (op_at h11 (·.op) (by kernel_rfl)) g #[.int .i64 X, .int .i64 Y] e9 e8 74 _ hr (by kernel_rfl) rfl (by simp [Value.oneCell']) ?_
    rw [show o11.dst = none from op_at h11 (·.dst) (by kernel_rfl)]
    clear hdr h11
    obtain ⟨W5, hW, hg5, hE5⟩ : ∃ W', W.setRow g #[.int .i64 X, .int .i64 Y] = W' ∧ W'.heap[g]? = some (.cells #[.int .i64 X, .int .i64 Y] 74 (0, 0)) ∧ Ext w0 W' := ⟨_, rfl, row_setRow _ _ _ _ _ _ hr, below_setRow hB hN _⟩
    rw [hW]
    clear hW hr hN hB e8 e9
    show Exit.then _ _ _ a _
    rw [ha]
    clear ha
    simp only [Exit.then, puts, List.foldl_cons, List.foldl_nil, Act.put, List.setIfInBounds_toArray, List.set_cons_succ, List.set_cons_zero]
    go_at_K
    obtain ⟨q0, q1, q2⟩ := (HX.out.ext hE5).cells
    have g0 := cell_of_row _ _ 0 _ _ _ hg5
    have g1 := cell_of_row _ _ 1 _ _ _ hg5
    simp at g0 g1
    have HE := Lib.hid (HV5.out.trans hE5)
    clear HX HV5 HT hE5 hg5 hbd hs hiXY
    by_cases hz : s = 0
    · subst hz
      go_wp2
      go_ret
      exact ⟨ret_bool (by simp; omega), HE.out⟩
    · have hz2 : (s == 0) = false := by simp [hz]
      go_wp2
      go_ret
      exact ⟨ret_bool (by simp), HE.out⟩
set_option maxRecDepth 100000 in
set_option maxHeartbeats 4000000 in
theorem touches_sw_r (T : Option Addr) (m cT : Nat) (ts : List Int) (h0 : Few Wd ss ds) (hb : IsBath w w.heap.size A n c A' n' c' ss ds) (hm : m = ts.length) (hmn : n' ≤ m) (hmm : m ≤ 9223372036854775807) (ht : Held w w.heap.size 1 encI T ts) (hbd : ∀ k, 0 ≤ ts.getD k 0 ∧ ts.getD k 0 ≤ 10000) (i : Nat) (hi : i < n) :
    Calls Try.prog 46 #[.agg #[.int .i64 Wd, .slice A n c, .slice A' n' c'], .slice T m cT, .int .i64 (-2), .int .i64 (i : Int)] w fun e w' => e = .returned (.bool (meetB Wd ss (fun j => sumAt ds ts j n') (-2) i)) ∧ Ext w w' := by
  have h100 : n' ≤ 100 := by have := h0.many.2; have := hb.nds; omega
  have hiN : i < n := hi
  have hin : (i : Int) < (n : Int) := by omega
  have hi0 : decide ((i : Int) < 0) = false := by simp
  have h00 := BathAt.new (Wd := Wd) hb
  obtain ⟨b, off, rfl, _, _⟩ := h00.spot hi
  obtain ⟨X, Y, hiXY⟩ : ∃ X Y, ss.getD i (0, 0) = (X, Y) := ⟨_, _, rfl⟩
  obtain ⟨bx1, bx2, by1, by2, bw⟩ := spot_bd h0 (by rw [← hb.nss]; exact hi) hiXY
  obtain ⟨s, hs⟩ : ∃ s, sumAt ds ts i n' = s := ⟨_, rfl⟩
  have hsb := sumAt_bd ds ts i hbd n'
  rw [hs] at hsb
  obtain ⟨bs1, bs2⟩ := hsb
  have bs3 : s ≤ 1000000 := by omega
  have hres : meetB Wd ss (fun j => sumAt ds ts j n') (-2) i = decide ((Wd - X) * (Wd - X) ≤ s) := by rw [meetB_right, hiXY]; simp only [hs]
  rw [hres]
  clear hres
  have bm := mul_bd (a := (Wd - X)) (b := (Wd - X)) (M := 1000) (N := 1000) (by omega) (by omega) (by omega) (by omega)
  have bm1 : 1 ≤ (Wd - X) * (Wd - X) := by have := Int.mul_le_mul (a := 1) (b := 1) (c := (Wd - X)) (d := (Wd - X)) (by omega) (by omega) (by omega) (by omega); omega
  obtain ⟨w0, hw0⟩ : ∃ w0, w.alloc (.cells #[.int .i64 Wd, .slice (some ⟨b, off, none⟩) n c, .slice A' n' c'] 25) = w0 := ⟨_, rfl⟩
  have e0 : Ext w w0 := by rw [← hw0]; exact ext_alloc w _
  rw [hw0] at h00
  have HW := Lib.hid hw0
  have HX := Lib.hid h00
  have HT := Lib.hid ht
  have HV5 := Lib.hid e0
  clear hw0 h00 ht e0 hb h0
  go_enter Try.func46, Try.ntmps46
  go_upto_region 5 with fail
  rw [HW.out]
  clear HW
  generalize w.heap.size = p0 at HX ⊢
  refine wp_region_specs_free (ops := touchReg5) 11 (sizeSpotS Wd b off n c A' n' c' T m cT i s X Y p0 w0.heap.size) (Ext w0) (by kernel_rfl) (by kernel_rfl) (by kernel_rfl) ⟨rfl, rfl, rfl, Nat.le_refl _, fun _ _ => rfl⟩ (fun _ _ h e => h.trans e) (sizeSpotS_ext Wd b off n c A' n' c' T m cT i s X Y p0 w0.heap.size) touchD5 (by kernel_rfl) ?_ ?_
  · intro k o hk ho a W hB hsz hold haft
    match k, hk with
    | 0, _ => exact touch5_op0 (hold 4 (by kernel_rfl)) HX.out ho hB haft
    | 1, _ => exact touch5_op1 (hold 1 (by kernel_rfl)) ho hB haft
    | 2, _ => exact touch5_op2 (hold 2 (by kernel_rfl)) ho hB haft
    | 3, _ => exact touch5_op3 HX.out h100 hm hmn hmm (HT.out.ext HV5.out) hbd hs ho hB haft
    | 4, _ => exact touch5_op4 (hold 4 (by kernel_rfl)) ho hB haft
    | 5, _ => exact touch5_op5 (hold 4 (by kernel_rfl)) HX.out ho hB haft
    | 6, _ => exact touch5_op6 (hold 2 (by kernel_rfl)) ho hB haft
    | 7, _ => exact touch5_op7 hin ho hB haft
    | 8, _ => exact touch5_op8 HX.out hiN hiXY ho hB haft
    | 9, _ => exact touch5_op9 (Nat.le_refl _) ho hB haft
    | 10, _ => exact touch5_op10  ho hB haft
    | k + 11, h => exact absurd h (by omega)
  · intro a W hB hsz hdf hold hS
    obtain ⟨g, e9, hN, hr⟩ : ∃ g, a.eval (.tmp 10) = .pointer (some ⟨g, 0, none⟩) ∧ w0.heap.size ≤ g ∧ W.heap[g]? = some (.cells #[.int .i64 0, .int .i64 0] 74 (0, 0)) := hS 9 (by omega)
    have hall : ∀ x, x ∈ ([(24, .agg #[.int .i64 Wd, .slice (some ⟨b, off, none⟩) n c, .slice A' n' c']), (25, .slice T m cT), (26, .int .i64 (i : Int)), (27, .int .i64 s), (28, .pointer (some ⟨p0, 1, none⟩)), (29, .slice (some ⟨b, off, none⟩) n c), (30, .int .i64 (i : Int)), (31, .pointer (some ⟨b, off + i * 2, none⟩)), (32, .agg #[.int .i64 X, .int .i64 Y]), (10, .pointer (some ⟨g, 0, none⟩)), (9, .int .i64 s)] : List (Tmp × Value)) → x.1 < 116 ∧ a.eval (.tmp x.1) = x.2 := by
      intro x hx
      simp only [List.mem_cons, List.not_mem_nil, or_false] at hx
      rcases hx with rfl | rfl | rfl | rfl | rfl | rfl | rfl | rfl | rfl | rfl | rfl
      · exact ⟨(show (24 : Nat) < 116 by omega), hS 0 (by omega)⟩
      · exact ⟨(show (25 : Nat) < 116 by omega), hS 1 (by omega)⟩
      · exact ⟨(show (26 : Nat) < 116 by omega), hS 2 (by omega)⟩
      · exact ⟨(show (27 : Nat) < 116 by omega), hS 3 (by omega)⟩
      · exact ⟨(show (28 : Nat) < 116 by omega), hS 4 (by omega)⟩
      · exact ⟨(show (29 : Nat) < 116 by omega), hS 5 (by omega)⟩
      · exact ⟨(show (30 : Nat) < 116 by omega), hS 6 (by omega)⟩
      · exact ⟨(show (31 : Nat) < 116 by omega), hS 7 (by omega)⟩
      · exact ⟨(show (32 : Nat) < 116 by omega), hS 8 (by omega)⟩
      · exact ⟨(show (10 : Nat) < 116 by omega), e9⟩
      · exact ⟨(show (9 : Nat) < 116 by omega), hS 10 (by omega)⟩
    have ha := act_puts hsz hdf hall (fun t ht => hold t (all_ne_of (l := [(24, .agg #[.int .i64 Wd, .slice (some ⟨b, off, none⟩) n c, .slice A' n' c']), (25, .slice T m cT), (26, .int .i64 (i : Int)), (27, .int .i64 s), (28, .pointer (some ⟨p0, 1, none⟩)), (29, .slice (some ⟨b, off, none⟩) n c), (30, .int .i64 (i : Int)), (31, .pointer (some ⟨b, off + i * 2, none⟩)), (32, .agg #[.int .i64 X, .int .i64 Y]), (10, .pointer (some ⟨g, 0, none⟩)), (9, .int .i64 s)]) (by kernel_rfl) ht))
    have e8 : a.eval (.tmp 32) = .agg #[.int .i64 X, .int .i64 Y] := hS 8 (by omega)
    clear hall hS hold hsz hdf
    obtain ⟨o11, hdr, h11⟩ := drop_one (ops := touchReg5) (k := 11) (by kernel_rfl)
    rw [hdr]
    refine wpList_store_row (op_at h11 (·.guard) (x := none) (by kernel_rfl)) 74 (.tmp 10) (.tmp 32) (op_at h11 (·.op) (by kernel_rfl)) g #[.int .i64 X, .int .i64 Y] e9 e8 74 _ hr (by kernel_rfl) rfl (by simp [Value.oneCell']) ?_
    rw [show o11.dst = none from op_at h11 (·.dst) (by kernel_rfl)]
    clear hdr h11
    obtain ⟨W5, hW, hg5, hE5⟩ : ∃ W', W.setRow g #[.int .i64 X, .int .i64 Y] = W' ∧ W'.heap[g]? = some (.cells #[.int .i64 X, .int .i64 Y] 74 (0, 0)) ∧ Ext w0 W' := ⟨_, rfl, row_setRow _ _ _ _ _ _ hr, below_setRow hB hN _⟩
    rw [hW]
    clear hW hr hN hB e8 e9
    show Exit.then _ _ _ a _
    rw [ha]
    clear ha
    simp only [Exit.then, puts, List.foldl_cons, List.foldl_nil, Act.put, List.setIfInBounds_toArray, List.set_cons_succ, List.set_cons_zero]
    go_at_K
    obtain ⟨q0, q1, q2⟩ := (HX.out.ext hE5).cells
    have g0 := cell_of_row _ _ 0 _ _ _ hg5
    have g1 := cell_of_row _ _ 1 _ _ _ hg5
    simp at g0 g1
    have HE := Lib.hid (HV5.out.trans hE5)
    clear HX HV5 HT hE5 hg5 hbd hs hiXY
    by_cases hz : s = 0
    · subst hz
      go_wp2
      go_ret
      exact ⟨ret_bool (by simp; omega), HE.out⟩
    · have hz2 : (s == 0) = false := by simp [hz]
      go_wp2
      go_ret
      exact ⟨ret_bool (by simp), HE.out⟩
set_option maxRecDepth 100000 in
set_option maxHeartbeats 8000000 in
theorem touches_spots (T : Option Addr) (m cT : Nat) (ts : List Int) (h0 : Few Wd ss ds) (hb : IsBath w w.heap.size A n c A' n' c' ss ds) (hm : m = ts.length) (hmn : n' ≤ m) (hmm : m ≤ 9223372036854775807) (ht : Held w w.heap.size 1 encI T ts) (hbd : ∀ k, 0 ≤ ts.getD k 0 ∧ ts.getD k 0 ≤ 10000) (i j : Nat) (hi : i < n) (hj : j < n) :
    Calls Try.prog 46 #[.agg #[.int .i64 Wd, .slice A n c, .slice A' n' c'], .slice T m cT, .int .i64 (i : Int), .int .i64 (j : Int)] w fun e w' => e = .returned (.bool (reachB (sumAt ds ts i n') (sumAt ds ts j n') (((ss.getD i (0, 0)).1 - (ss.getD j (0, 0)).1) * ((ss.getD i (0, 0)).1 - (ss.getD j (0, 0)).1) + ((ss.getD i (0, 0)).2 - (ss.getD j (0, 0)).2) * ((ss.getD i (0, 0)).2 - (ss.getD j (0, 0)).2)))) ∧ Ext w w' := by
  have h100 : n' ≤ 100 := by have := h0.many.2; have := hb.nds; omega
  have hiN : i < n := hi
  have hin : (i : Int) < (n : Int) := by omega
  have hi0 : decide ((i : Int) < 0) = false := by simp
  have h00 := BathAt.new (Wd := Wd) hb
  obtain ⟨b, off, rfl, _, _⟩ := h00.spot hi
  obtain ⟨X, Y, hiXY⟩ : ∃ X Y, ss.getD i (0, 0) = (X, Y) := ⟨_, _, rfl⟩
  obtain ⟨bx1, bx2, by1, by2, bw⟩ := spot_bd h0 (by rw [← hb.nss]; exact hi) hiXY
  obtain ⟨s, hs⟩ : ∃ s, sumAt ds ts i n' = s := ⟨_, rfl⟩
  have hsb := sumAt_bd ds ts i hbd n'
  rw [hs] at hsb
  obtain ⟨bs1, bs2⟩ := hsb
  have bs3 : s ≤ 1000000 := by omega
  have hjN : j < n := hj
  have hjn : (j : Int) < (n : Int) := by omega
  have hj0 : decide ((j : Int) < 0) = false := by simp
  have hj1 : ((j : Int) == -1) = false := by simp
  have hj2 : ((j : Int) == -2) = false := by simp
  obtain ⟨X2, Y2, hjXY⟩ : ∃ X Y, ss.getD j (0, 0) = (X, Y) := ⟨_, _, rfl⟩
  obtain ⟨cx1, cx2, cy1, cy2, _⟩ := spot_bd h0 (by rw [← hb.nss]; exact hj) hjXY
  obtain ⟨s2, hs2⟩ : ∃ s, sumAt ds ts j n' = s := ⟨_, rfl⟩
  have hsb2 := sumAt_bd ds ts j hbd n'
  rw [hs2] at hsb2
  obtain ⟨cs1, cs2⟩ := hsb2
  have cs3 : s2 ≤ 1000000 := by omega
  rw [hs, hs2, hiXY, hjXY]
  have b1 : 0 ≤ (X - X2) * (X - X2) ∧ (X - X2) * (X - X2) ≤ 1000000 := by
    rcases Int.le_total X2 X with h | h
    · exact mul_bd (a := X - X2) (b := X - X2) (M := 1000) (N := 1000) (by omega) (by omega) (by omega) (by omega)
    · rw [show (X - X2) * (X - X2) = (X2 - X) * (X2 - X) from by rw [← Int.neg_mul_neg]; simp [Int.neg_sub]]
      exact mul_bd (a := X2 - X) (b := X2 - X) (M := 1000) (N := 1000) (by omega) (by omega) (by omega) (by omega)
  have b2 : 0 ≤ (Y - Y2) * (Y - Y2) ∧ (Y - Y2) * (Y - Y2) ≤ 1000000 := by
    rcases Int.le_total Y2 Y with h | h
    · exact mul_bd (a := Y - Y2) (b := Y - Y2) (M := 1000) (N := 1000) (by omega) (by omega) (by omega) (by omega)
    · rw [show (Y - Y2) * (Y - Y2) = (Y2 - Y) * (Y2 - Y) from by rw [← Int.neg_mul_neg]; simp [Int.neg_sub]]
      exact mul_bd (a := Y2 - Y) (b := Y2 - Y) (M := 1000) (N := 1000) (by omega) (by omega) (by omega) (by omega)
  obtain ⟨w0, hw0⟩ : ∃ w0, w.alloc (.cells #[.int .i64 Wd, .slice (some ⟨b, off, none⟩) n c, .slice A' n' c'] 25) = w0 := ⟨_, rfl⟩
  have e0 : Ext w w0 := by rw [← hw0]; exact ext_alloc w _
  rw [hw0] at h00
  have HW := Lib.hid hw0
  have HX := Lib.hid h00
  have HT := Lib.hid ht
  have HV5 := Lib.hid e0
  clear hw0 h00 ht e0 hb h0
  go_enter Try.func46, Try.ntmps46
  go_upto_region 5 with fail
  rw [HW.out]
  clear HW
  generalize w.heap.size = p0 at HX ⊢
  refine wp_region_specs_free (ops := touchReg5) 11 (sizeSpotS Wd b off n c A' n' c' T m cT i s X Y p0 w0.heap.size) (Ext w0) (by kernel_rfl) (by kernel_rfl) (by kernel_rfl) ⟨rfl, rfl, rfl, Nat.le_refl _, fun _ _ => rfl⟩ (fun _ _ h e => h.trans e) (sizeSpotS_ext Wd b off n c A' n' c' T m cT i s X Y p0 w0.heap.size) touchD5 (by kernel_rfl) ?_ ?_
  · intro k o hk ho a W hB hsz hold haft
    match k, hk with
    | 0, _ => exact touch5_op0 (hold 4 (by kernel_rfl)) HX.out ho hB haft
    | 1, _ => exact touch5_op1 (hold 1 (by kernel_rfl)) ho hB haft
    | 2, _ => exact touch5_op2 (hold 2 (by kernel_rfl)) ho hB haft
    | 3, _ => exact touch5_op3 HX.out h100 hm hmn hmm (HT.out.ext HV5.out) hbd hs ho hB haft
    | 4, _ => exact touch5_op4 (hold 4 (by kernel_rfl)) ho hB haft
    | 5, _ => exact touch5_op5 (hold 4 (by kernel_rfl)) HX.out ho hB haft
    | 6, _ => exact touch5_op6 (hold 2 (by kernel_rfl)) ho hB haft
    | 7, _ => exact touch5_op7 hin ho hB haft
    | 8, _ => exact touch5_op8 HX.out hiN hiXY ho hB haft
    | 9, _ => exact touch5_op9 (Nat.le_refl _) ho hB haft
    | 10, _ => exact touch5_op10  ho hB haft
    | k + 11, h => exact absurd h (by omega)
  · intro a W hB hsz hdf hold hS
    obtain ⟨g1, e9, hN, hr⟩ : ∃ g, a.eval (.tmp 10) = .pointer (some ⟨g, 0, none⟩) ∧ w0.heap.size ≤ g ∧ W.heap[g]? = some (.cells #[.int .i64 0, .int .i64 0] 74 (0, 0)) := hS 9 (by omega)
    have hall : ∀ x, x ∈ ([(24, .agg #[.int .i64 Wd, .slice (some ⟨b, off, none⟩) n c, .slice A' n' c']), (25, .slice T m cT), (26, .int .i64 (i : Int)), (27, .int .i64 s), (28, .pointer (some ⟨p0, 1, none⟩)), (29, .slice (some ⟨b, off, none⟩) n c), (30, .int .i64 (i : Int)), (31, .pointer (some ⟨b, off + i * 2, none⟩)), (32, .agg #[.int .i64 X, .int .i64 Y]), (10, .pointer (some ⟨g1, 0, none⟩)), (9, .int .i64 s)] : List (Tmp × Value)) → x.1 < 116 ∧ a.eval (.tmp x.1) = x.2 := by
      intro x hx
      simp only [List.mem_cons, List.not_mem_nil, or_false] at hx
      rcases hx with rfl | rfl | rfl | rfl | rfl | rfl | rfl | rfl | rfl | rfl | rfl
      · exact ⟨(show (24 : Nat) < 116 by omega), hS 0 (by omega)⟩
      · exact ⟨(show (25 : Nat) < 116 by omega), hS 1 (by omega)⟩
      · exact ⟨(show (26 : Nat) < 116 by omega), hS 2 (by omega)⟩
      · exact ⟨(show (27 : Nat) < 116 by omega), hS 3 (by omega)⟩
      · exact ⟨(show (28 : Nat) < 116 by omega), hS 4 (by omega)⟩
      · exact ⟨(show (29 : Nat) < 116 by omega), hS 5 (by omega)⟩
      · exact ⟨(show (30 : Nat) < 116 by omega), hS 6 (by omega)⟩
      · exact ⟨(show (31 : Nat) < 116 by omega), hS 7 (by omega)⟩
      · exact ⟨(show (32 : Nat) < 116 by omega), hS 8 (by omega)⟩
      · exact ⟨(show (10 : Nat) < 116 by omega), e9⟩
      · exact ⟨(show (9 : Nat) < 116 by omega), hS 10 (by omega)⟩
    have ha := act_puts hsz hdf hall (fun t ht => hold t (all_ne_of (l := [(24, .agg #[.int .i64 Wd, .slice (some ⟨b, off, none⟩) n c, .slice A' n' c']), (25, .slice T m cT), (26, .int .i64 (i : Int)), (27, .int .i64 s), (28, .pointer (some ⟨p0, 1, none⟩)), (29, .slice (some ⟨b, off, none⟩) n c), (30, .int .i64 (i : Int)), (31, .pointer (some ⟨b, off + i * 2, none⟩)), (32, .agg #[.int .i64 X, .int .i64 Y]), (10, .pointer (some ⟨g1, 0, none⟩)), (9, .int .i64 s)]) (by kernel_rfl) ht))
    have e8 : a.eval (.tmp 32) = .agg #[.int .i64 X, .int .i64 Y] := hS 8 (by omega)
    clear hall hS hold hsz hdf
    obtain ⟨o11, hdr, h11⟩ := drop_one (ops := touchReg5) (k := 11) (by kernel_rfl)
    rw [hdr]
    refine wpList_store_row (op_at h11 (·.guard) (x := none) (by kernel_rfl)) 74 (.tmp 10) (.tmp 32) (op_at h11 (·.op) (by kernel_rfl)) g1 #[.int .i64 X, .int .i64 Y] e9 e8 74 _ hr (by kernel_rfl) rfl (by simp [Value.oneCell']) ?_
    rw [show o11.dst = none from op_at h11 (·.dst) (by kernel_rfl)]
    clear hdr h11
    obtain ⟨W5, hW, hg5, hE5⟩ : ∃ W', W.setRow g1 #[.int .i64 X, .int .i64 Y] = W' ∧ W'.heap[g1]? = some (.cells #[.int .i64 X, .int .i64 Y] 74 (0, 0)) ∧ Ext w0 W' := ⟨_, rfl, row_setRow _ _ _ _ _ _ hr, below_setRow hB hN _⟩
    rw [hW]
    clear hW hr hN hB e8 e9
    show Exit.then _ _ _ a _
    rw [ha]
    clear ha
    simp only [Exit.then, puts, List.foldl_cons, List.foldl_nil, Act.put, List.setIfInBounds_toArray, List.set_cons_succ, List.set_cons_zero]
    go_at_K
    have HX12 := Lib.hid (HX.out.ext hE5)
    have HV12 := Lib.hid (HV5.out.trans hE5)
    have HG5 := Lib.hid hg5
    clear HX HV5 hE5 hg5 hs hiXY
    by_cases hz : s = 0
    · subst hz
      go_wp2
      go_ret
      exact ⟨ret_bool (by simp [reachB]), HV12.out⟩
    · have hz2 : (s == 0) = false := by simp [hz]
      go_upto_region 12 with fail
      refine wp_region_specs_free (ops := touchReg12) 11 (sizeSpotS Wd b off n c A' n' c' T m cT j s2 X2 Y2 p0 W5.heap.size) (Ext W5) (by kernel_rfl) (by kernel_rfl) (by kernel_rfl) ⟨rfl, rfl, rfl, Nat.le_refl _, fun _ _ => rfl⟩ (fun _ _ h e => h.trans e) (sizeSpotS_ext Wd b off n c A' n' c' T m cT j s2 X2 Y2 p0 W5.heap.size) touchD12 (by kernel_rfl) ?_ ?_
      · intro k o hk ho a W hB hsz hold haft
        match k, hk with
        | 0, _ => exact touch12_op0 (hold 4 (by kernel_rfl)) HX12.out ho hB haft
        | 1, _ => exact touch12_op1 (hold 1 (by kernel_rfl)) ho hB haft
        | 2, _ => exact touch12_op2 (hold 3 (by kernel_rfl)) ho hB haft
        | 3, _ => exact touch12_op3 HX12.out h100 hm hmn hmm (HT.out.ext HV12.out) hbd hs2 ho hB haft
        | 4, _ => exact touch12_op4 (hold 4 (by kernel_rfl)) ho hB haft
        | 5, _ => exact touch12_op5 (hold 4 (by kernel_rfl)) HX12.out ho hB haft
        | 6, _ => exact touch12_op6 (hold 3 (by kernel_rfl)) ho hB haft
        | 7, _ => exact touch12_op7 hjn ho hB haft
        | 8, _ => exact touch12_op8 HX12.out hjN hjXY ho hB haft
        | 9, _ => exact touch12_op9 (Nat.le_refl _) ho hB haft
        | 10, _ => exact touch12_op10  ho hB haft
        | k + 11, h => exact absurd h (by omega)
      · intro a W hB hsz hdf hold hS
        obtain ⟨g2, e9, hN, hr⟩ : ∃ g, a.eval (.tmp 12) = .pointer (some ⟨g, 0, none⟩) ∧ W5.heap.size ≤ g ∧ W.heap[g]? = some (.cells #[.int .i64 0, .int .i64 0] 74 (0, 0)) := hS 9 (by omega)
        have hall : ∀ x, x ∈ ([(59, .agg #[.int .i64 Wd, .slice (some ⟨b, off, none⟩) n c, .slice A' n' c']), (60, .slice T m cT), (61, .int .i64 (j : Int)), (62, .int .i64 s2), (63, .pointer (some ⟨p0, 1, none⟩)), (64, .slice (some ⟨b, off, none⟩) n c), (65, .int .i64 (j : Int)), (66, .pointer (some ⟨b, off + j * 2, none⟩)), (67, .agg #[.int .i64 X2, .int .i64 Y2]), (12, .pointer (some ⟨g2, 0, none⟩)), (11, .int .i64 s2)] : List (Tmp × Value)) → x.1 < 116 ∧ a.eval (.tmp x.1) = x.2 := by
          intro x hx
          simp only [List.mem_cons, List.not_mem_nil, or_false] at hx
          rcases hx with rfl | rfl | rfl | rfl | rfl | rfl | rfl | rfl | rfl | rfl | rfl
          · exact ⟨(show (59 : Nat) < 116 by omega), hS 0 (by omega)⟩
          · exact ⟨(show (60 : Nat) < 116 by omega), hS 1 (by omega)⟩
          · exact ⟨(show (61 : Nat) < 116 by omega), hS 2 (by omega)⟩
          · exact ⟨(show (62 : Nat) < 116 by omega), hS 3 (by omega)⟩
          · exact ⟨(show (63 : Nat) < 116 by omega), hS 4 (by omega)⟩
          · exact ⟨(show (64 : Nat) < 116 by omega), hS 5 (by omega)⟩
          · exact ⟨(show (65 : Nat) < 116 by omega), hS 6 (by omega)⟩
          · exact ⟨(show (66 : Nat) < 116 by omega), hS 7 (by omega)⟩
          · exact ⟨(show (67 : Nat) < 116 by omega), hS 8 (by omega)⟩
          · exact ⟨(show (12 : Nat) < 116 by omega), e9⟩
          · exact ⟨(show (11 : Nat) < 116 by omega), hS 10 (by omega)⟩
        have ha := act_puts hsz hdf hall (fun t ht => hold t (all_ne_of (l := [(59, .agg #[.int .i64 Wd, .slice (some ⟨b, off, none⟩) n c, .slice A' n' c']), (60, .slice T m cT), (61, .int .i64 (j : Int)), (62, .int .i64 s2), (63, .pointer (some ⟨p0, 1, none⟩)), (64, .slice (some ⟨b, off, none⟩) n c), (65, .int .i64 (j : Int)), (66, .pointer (some ⟨b, off + j * 2, none⟩)), (67, .agg #[.int .i64 X2, .int .i64 Y2]), (12, .pointer (some ⟨g2, 0, none⟩)), (11, .int .i64 s2)]) (by kernel_rfl) ht))
        have e8 : a.eval (.tmp 67) = .agg #[.int .i64 X2, .int .i64 Y2] := hS 8 (by omega)
        clear hall hS hold hsz hdf
        obtain ⟨o11, hdr, h11⟩ := drop_one (ops := touchReg12) (k := 11) (by kernel_rfl)
        rw [hdr]
        refine wpList_store_row (op_at h11 (·.guard) (x := none) (by kernel_rfl)) 74 (.tmp 12) (.tmp 67) (op_at h11 (·.op) (by kernel_rfl)) g2 #[.int .i64 X2, .int .i64 Y2] e9 e8 74 _ hr (by kernel_rfl) rfl (by simp [Value.oneCell']) ?_
        rw [show o11.dst = none from op_at h11 (·.dst) (by kernel_rfl)]
        clear hdr h11
        obtain ⟨W12, hW, hg12, hE12⟩ : ∃ W', W.setRow g2 #[.int .i64 X2, .int .i64 Y2] = W' ∧ W'.heap[g2]? = some (.cells #[.int .i64 X2, .int .i64 Y2] 74 (0, 0)) ∧ Ext W5 W' := ⟨_, rfl, row_setRow _ _ _ _ _ _ hr, below_setRow hB hN _⟩
        rw [hW]
        clear hW hr hN hB e8 e9
        show Exit.then _ _ _ a _
        rw [ha]
        clear ha
        simp only [Exit.then, puts, List.foldl_cons, List.foldl_nil, Act.put, List.setIfInBounds_toArray, List.set_cons_succ, List.set_cons_zero]
        go_at_K
        have hg5 := row_ext HG5.out hE12
        have f0 := cell_of_row _ _ 0 _ _ _ hg5
        have f1 := cell_of_row _ _ 1 _ _ _ hg5
        have f2 := cell_of_row _ _ 0 _ _ _ hg12
        have f3 := cell_of_row _ _ 1 _ _ _ hg12
        simp at f0 f1 f2 f3
        have HE := Lib.hid (HV12.out.trans hE12)
        clear HX12 HV12 HT HG5 hE12 hg12 hg5 hbd hs2 hjXY hi0 hj0 hj1 hj2
        by_cases hy : s2 = 0
        · subst hy
          go_wp2
          go_ret
          exact ⟨ret_bool (by simp [reachB]), HE.out⟩
        · have hy2 : (s2 == 0) = false := by simp [hy]
          obtain ⟨D, hD⟩ : ∃ D, (X - X2) * (X - X2) + (Y - Y2) * (Y - Y2) = D := ⟨_, rfl⟩
          have HD := Lib.hid hD
          have hD0 : 0 ≤ D ∧ D ≤ 2000000 := by omega
          obtain ⟨hD0, hD1⟩ := hD0
          by_cases hle : D ≤ s + s2
          · have hr : reachB s s2 D = true := by simp [reachB, hz, hy]; omega
            have HR := Lib.hid hr
            clear hr
            go_wp2
            go_ret
            exact ⟨ret_bool (by first | rw [HD.out, HR.out] | rw [HR.out]), HE.out⟩
          · have bq := mul_bd (a := D - s - s2) (b := D - s - s2) (M := 2000000) (N := 2000000) (by omega) (by omega) (by omega) (by omega)
            have bp := mul_bd (a := 4 * s) (b := s2) (M := 4000000) (N := 1000000) (by omega) (by omega) (by omega) (by omega)
            have hr : reachB s s2 D = decide ((D - s - s2) * (D - s - s2) ≤ 4 * s * s2) := by
              have h3 : ¬ (D - s - s2 ≤ 0) := by omega
              simp [reachB, hz, hy, h3]
            have HR := Lib.hid hr
            clear hr
            go_wp2
            go_ret
            exact ⟨ret_bool (by first | rw [HD.out, HR.out] | rw [HR.out]), HE.out⟩
end
end Go.Proofs.Ytgdpgdnhhjclcaa

/- The reference's kind of two places. -/
namespace Go.Proofs.Ytgdpgdnhhjclcaa
open Go.RowKit Go.Shelf

section
variable {w : World} {Wd : Int} {A : Option Addr} {n c : Nat} {A' : Option Addr} {n' c' : Nat} {ss : List (Int × Int)} {ds : List (Int × Int × Int)}

/-- Touches, at any two different places. -/
theorem touches_ref (T : Option Addr) (m cT : Nat) (ts : List Int) (h0 : Few Wd ss ds) (hb : IsBath w w.heap.size A n c A' n' c' ss ds) (hm : m = ts.length) (hmn : n' ≤ m) (hmm : m ≤ 9223372036854775807) (ht : Held w w.heap.size 1 encI T ts) (hbd : ∀ k, 0 ≤ ts.getD k 0 ∧ ts.getD k 0 ≤ 10000)
    (one two : Int) (h1 : -2 ≤ one) (h1' : one < n) (h2 : -2 ≤ two) (h2' : two < n) (hne : one ≠ two) :
    Calls Try.prog 46 #[.agg #[.int .i64 Wd, .slice A n c, .slice A' n' c'], .slice T m cT, .int .i64 one, .int .i64 two] w fun e w' => e = .returned (.bool (meetB Wd ss (fun j => sumAt ds ts j n') one two)) ∧ Ext w w' := by
  by_cases ha : one < 0
  · by_cases hb2 : two < 0
    · have hr : meetB Wd ss (fun j => sumAt ds ts j n') one two = false := by
        rcases Int.lt_or_gt_of_ne hne with h | h
        · exact meetB_walls _ _ _ _ _ h hb2
        · rw [meetB_comm]; exact meetB_walls _ _ _ _ _ h ha
      rw [hr]
      exact touches_none T m cT one two ha hb2
    · obtain ⟨i, rfl⟩ := Int.eq_ofNat_of_zero_le (show 0 ≤ two by omega)
      rcases (show one = -1 ∨ one = -2 by omega) with rfl | rfl
      · exact touches_sw_l T m cT ts h0 hb hm hmn hmm ht hbd i (by omega)
      · exact touches_sw_r T m cT ts h0 hb hm hmn hmm ht hbd i (by omega)
  · obtain ⟨i, rfl⟩ := Int.eq_ofNat_of_zero_le (show 0 ≤ one by omega)
    by_cases hb2 : two < 0
    · rw [meetB_comm]
      rcases (show two = -1 ∨ two = -2 by omega) with rfl | rfl
      · exact touches_ns_l T m cT ts h0 hb hm hmn hmm ht hbd i (by omega)
      · exact touches_ns_r T m cT ts h0 hb hm hmn hmm ht hbd i (by omega)
    · obtain ⟨j, rfl⟩ := Int.eq_ofNat_of_zero_le (show 0 ≤ two by omega)
      have hc := touches_spots T m cT ts h0 hb hm hmn hmm ht hbd i j (by omega) (by omega)
      rcases Int.lt_or_gt_of_ne hne with h | h
      · rw [meetB_spots _ _ _ _ _ (by omega)]
        exact hc
      · rw [meetB_comm, meetB_spots _ _ _ _ _ (by omega), reachB_comm]
        rw [sq_comm (ss.getD j (0, 0)).1 (ss.getD i (0, 0)).1, sq_comm (ss.getD j (0, 0)).2 (ss.getD i (0, 0)).2]
        exact hc

theorem meet_ends (high : Bool) (ds : List (Int × Int × Int)) (one two : Int) : meetB Wd ss (fun j => sumAt ds (ds.map (endOf high)) j ds.length) one two = meetB Wd ss (fun j => if high then (sizes ds j).2 else (sizes ds j).1) one two := by
  congr 1
  funext j
  exact sumAt_ends high ds j

/-- What each operation of kind's two tests yields. -/
def kindS (Wd : Int) (A : Option Addr) (n c : Nat) (A' : Option Addr) (n' c' : Nat) (xs : List Int) (one two : Int) (r : Bool) (k : Nat) (v : Value) (W : World) : Prop :=
  match k with
  | 2 => IntsAt xs v W
  | 3 => v = .int .i64 one
  | 4 => v = .int .i64 two
  | 5 => v = .bool r
  | _ => v = .agg #[.int .i64 Wd, .slice A n c, .slice A' n' c']
theorem kindS_ext (Wd : Int) (A : Option Addr) (n c : Nat) (A' : Option Addr) (n' c' : Nat) (xs : List Int) (one two : Int) (r : Bool) (k : Nat) (v : Value) (W W' : World) (h : kindS Wd A n c A' n' c' xs one two r k v W) (e : Below W.heap.size W W') : kindS Wd A n c A' n' c' xs one two r k v W' := by
  unfold kindS at h ⊢
  split at h <;> first | exact h | exact IntsAt.ext h e

noncomputable def kindReg1 : Array Oper := (Try.f71.body.bind (regionOf · 1)).getD #[]
noncomputable def kindReg3 : Array Oper := (Try.f71.body.bind (regionOf · 3)).getD #[]
end
section
variable {Wd : Int} {A : Option Addr} {n c : Nat} {A' : Option Addr} {n' c' : Nat} {ss : List (Int × Int)} {ds : List (Int × Int × Int)} {one two : Int} {r : Bool} {p : Nat} {Q : Exit → Act → World → Prop} {a : Act} {V W : World} {o : Oper}

theorem kind1_op0 (o3 : a.eval (.tmp 3) = .pointer (some ⟨p, 0, none⟩)) (hx : BathAt V p Wd A n c A' n' c' ss ds) (ho : kindReg1[0]? = some o) (hB : Ext V W) (haft : ∀ j, (o.after.any fun e => decide (e.on = j) && Region.binds .any e) = true → kindS Wd A n c A' n' c' (ds.map (endOf false)) one two r j (a.eval (.tmp (7 + j))) W) :
    (∀ j b, o.guard = some (j, b) → a.eval (.tmp (7 + j)) = .bool b) ∧ o.wp Try.prog a W (fun a'' W' => ∃ v, a'' = a.put o.dst v ∧ kindS Wd A n c A' n' c' (ds.map (endOf false)) one two r 0 v W' ∧ Below W.heap.size W W') Q := by
  have hop := op_at ho (·.op) (x := .load 25 (.tmp 3)) (by kernel_rfl)
  have hgd := op_at ho (·.guard) (x := none) (by kernel_rfl)
  refine ⟨fun j b h => (by rw [hgd] at h; cases h), ?_⟩
  obtain ⟨q0, q1, q2⟩ := (hx.ext hB).cells
  exact specs_value (R := kindS Wd A n c A' n' c' (ds.map (endOf false)) one two r 0) (v := .agg #[.int .i64 Wd, .slice A n c, .slice A' n' c']) (by simp [execOp, hop, go_sem, ev o3, q0, q1, q2]) rfl (Ext.refl W)
theorem kind1_op1 (o3 : a.eval (.tmp 3) = .pointer (some ⟨p, 0, none⟩)) (hx : BathAt V p Wd A n c A' n' c' ss ds) (ho : kindReg1[1]? = some o) (hB : Ext V W) (haft : ∀ j, (o.after.any fun e => decide (e.on = j) && Region.binds .any e) = true → kindS Wd A n c A' n' c' (ds.map (endOf false)) one two r j (a.eval (.tmp (7 + j))) W) :
    (∀ j b, o.guard = some (j, b) → a.eval (.tmp (7 + j)) = .bool b) ∧ o.wp Try.prog a W (fun a'' W' => ∃ v, a'' = a.put o.dst v ∧ kindS Wd A n c A' n' c' (ds.map (endOf false)) one two r 1 v W' ∧ Below W.heap.size W W') Q := by
  have hop := op_at ho (·.op) (x := .load 25 (.tmp 3)) (by kernel_rfl)
  have hgd := op_at ho (·.guard) (x := none) (by kernel_rfl)
  refine ⟨fun j b h => (by rw [hgd] at h; cases h), ?_⟩
  obtain ⟨q0, q1, q2⟩ := (hx.ext hB).cells
  exact specs_value (R := kindS Wd A n c A' n' c' (ds.map (endOf false)) one two r 1) (v := .agg #[.int .i64 Wd, .slice A n c, .slice A' n' c']) (by simp [execOp, hop, go_sem, ev o3, q0, q1, q2]) rfl (Ext.refl W)
theorem kind1_op2 (hx : BathAt V p Wd A n c A' n' c' ss ds) (h0 : Few Wd ss ds) (ho : kindReg1[2]? = some o) (hB : Ext V W) (haft : ∀ j, (o.after.any fun e => decide (e.on = j) && Region.binds .any e) = true → kindS Wd A n c A' n' c' (ds.map (endOf false)) one two r j (a.eval (.tmp (7 + j))) W) :
    (∀ j b, o.guard = some (j, b) → a.eval (.tmp (7 + j)) = .bool b) ∧ o.wp Try.prog a W (fun a'' W' => ∃ v, a'' = a.put o.dst v ∧ kindS Wd A n c A' n' c' (ds.map (endOf false)) one two r 2 v W' ∧ Below W.heap.size W W') Q := by
  have hop := op_at ho (·.op) (x := .call { callee := .value (.func 61), args := #[.tmp 8, .const (.bool false)], argTypes := #[25, 4] }) (by kernel_rfl)
  have hgd := op_at ho (·.guard) (x := none) (by kernel_rfl)
  refine ⟨fun j b h => (by rw [hgd] at h; cases h), ?_⟩
  have e1 : a.eval (.tmp 8) = .agg #[.int .i64 Wd, .slice A n c, .slice A' n' c'] := haft 1 (op_at ho (fun o => o.after.any fun e => decide (e.on = 1) && Region.binds .any e) (x := true) (by kernel_rfl))
  have hX := hx.ext hB
  have hc := ends_ref (Wd := Wd) false hX.bath (by have := h0.many.2; have := hX.bath.nds; omega)
  exact specs_call (R := kindS Wd A n c A' n' c' (ds.map (endOf false)) one two r 2) (f := 61) (args := #[.agg #[.int .i64 Wd, .slice A n c, .slice A' n' c'], .bool false]) (by simp [execOp, hop, go_sem, ev e1]) (hc.mono fun e w' h => by
    obtain ⟨v, rfl, hM, hE⟩ := h
    exact ⟨v, rfl, made64_held hM, hE⟩)
theorem kind1_op3 (o1 : a.eval (.tmp 1) = .int .i64 one) (ho : kindReg1[3]? = some o) (hB : Ext V W) (haft : ∀ j, (o.after.any fun e => decide (e.on = j) && Region.binds .any e) = true → kindS Wd A n c A' n' c' (ds.map (endOf false)) one two r j (a.eval (.tmp (7 + j))) W) :
    (∀ j b, o.guard = some (j, b) → a.eval (.tmp (7 + j)) = .bool b) ∧ o.wp Try.prog a W (fun a'' W' => ∃ v, a'' = a.put o.dst v ∧ kindS Wd A n c A' n' c' (ds.map (endOf false)) one two r 3 v W' ∧ Below W.heap.size W W') Q := by
  have hop := op_at ho (·.op) (x := .move (.tmp 1)) (by kernel_rfl)
  have hgd := op_at ho (·.guard) (x := none) (by kernel_rfl)
  refine ⟨fun j b h => (by rw [hgd] at h; cases h), ?_⟩
  exact specs_value (R := kindS Wd A n c A' n' c' (ds.map (endOf false)) one two r 3) (v := .int .i64 one) (by simp [execOp, hop, go_sem, ev o1]) rfl (Ext.refl W)
theorem kind1_op4 (o2 : a.eval (.tmp 2) = .int .i64 two) (ho : kindReg1[4]? = some o) (hB : Ext V W) (haft : ∀ j, (o.after.any fun e => decide (e.on = j) && Region.binds .any e) = true → kindS Wd A n c A' n' c' (ds.map (endOf false)) one two r j (a.eval (.tmp (7 + j))) W) :
    (∀ j b, o.guard = some (j, b) → a.eval (.tmp (7 + j)) = .bool b) ∧ o.wp Try.prog a W (fun a'' W' => ∃ v, a'' = a.put o.dst v ∧ kindS Wd A n c A' n' c' (ds.map (endOf false)) one two r 4 v W' ∧ Below W.heap.size W W') Q := by
  have hop := op_at ho (·.op) (x := .move (.tmp 2)) (by kernel_rfl)
  have hgd := op_at ho (·.guard) (x := none) (by kernel_rfl)
  refine ⟨fun j b h => (by rw [hgd] at h; cases h), ?_⟩
  exact specs_value (R := kindS Wd A n c A' n' c' (ds.map (endOf false)) one two r 4) (v := .int .i64 two) (by simp [execOp, hop, go_sem, ev o2]) rfl (Ext.refl W)
theorem kind1_op5 (hx : BathAt V p Wd A n c A' n' c' ss ds) (h0 : Few Wd ss ds) (h1 : -2 ≤ one) (h1' : one < n) (h2 : -2 ≤ two) (h2' : two < n) (hne : one ≠ two) (hr : meetB Wd ss (fun j => sumAt ds (ds.map (endOf false)) j n') one two = r) (ho : kindReg1[5]? = some o) (hB : Ext V W) (haft : ∀ j, (o.after.any fun e => decide (e.on = j) && Region.binds .any e) = true → kindS Wd A n c A' n' c' (ds.map (endOf false)) one two r j (a.eval (.tmp (7 + j))) W) :
    (∀ j b, o.guard = some (j, b) → a.eval (.tmp (7 + j)) = .bool b) ∧ o.wp Try.prog a W (fun a'' W' => ∃ v, a'' = a.put o.dst v ∧ kindS Wd A n c A' n' c' (ds.map (endOf false)) one two r 5 v W' ∧ Below W.heap.size W W') Q := by
  have hop := op_at ho (·.op) (x := .call { callee := .value (.func 46), args := #[.tmp 7, .tmp 9, .tmp 10, .tmp 11], argTypes := #[25, 55, 3, 3] }) (by kernel_rfl)
  have hgd := op_at ho (·.guard) (x := none) (by kernel_rfl)
  refine ⟨fun j b h => (by rw [hgd] at h; cases h), ?_⟩
  have e0 : a.eval (.tmp 7) = .agg #[.int .i64 Wd, .slice A n c, .slice A' n' c'] := haft 0 (op_at ho (fun o => o.after.any fun e => decide (e.on = 0) && Region.binds .any e) (x := true) (by kernel_rfl))
  obtain ⟨T, cT, e2, hT⟩ := haft 2 (op_at ho (fun o => o.after.any fun e => decide (e.on = 2) && Region.binds .any e) (x := true) (by kernel_rfl))
  rw [show 7 + 2 = 9 from rfl] at e2
  have e3 : a.eval (.tmp 10) = .int .i64 one := haft 3 (op_at ho (fun o => o.after.any fun e => decide (e.on = 3) && Region.binds .any e) (x := true) (by kernel_rfl))
  have e4 : a.eval (.tmp 11) = .int .i64 two := haft 4 (op_at ho (fun o => o.after.any fun e => decide (e.on = 4) && Region.binds .any e) (x := true) (by kernel_rfl))
  have hX := hx.ext hB
  have hc := touches_ref (Wd := Wd) T _ cT (ds.map (endOf false)) h0 hX.bath rfl (by rw [List.length_map, hX.bath.nds]; exact Nat.le_refl _) (by rw [List.length_map]; have := h0.many.2; omega) hT (ends_bd h0 false) one two h1 h1' h2 h2' hne
  rw [hr] at hc
  exact specs_call (R := kindS Wd A n c A' n' c' (ds.map (endOf false)) one two r 5) (f := 46) (args := #[.agg #[.int .i64 Wd, .slice A n c, .slice A' n' c'], .slice T (ds.map (endOf false)).length cT, .int .i64 one, .int .i64 two]) (by simp [execOp, hop, go_sem, ev e0, ev e2, ev e3, ev e4]) (hc.mono fun e w' h => ⟨_, h.1, rfl, h.2⟩)
theorem kind3_op0 (o3 : a.eval (.tmp 3) = .pointer (some ⟨p, 0, none⟩)) (hx : BathAt V p Wd A n c A' n' c' ss ds) (ho : kindReg3[0]? = some o) (hB : Ext V W) (haft : ∀ j, (o.after.any fun e => decide (e.on = j) && Region.binds .any e) = true → kindS Wd A n c A' n' c' (ds.map (endOf true)) one two r j (a.eval (.tmp (13 + j))) W) :
    (∀ j b, o.guard = some (j, b) → a.eval (.tmp (13 + j)) = .bool b) ∧ o.wp Try.prog a W (fun a'' W' => ∃ v, a'' = a.put o.dst v ∧ kindS Wd A n c A' n' c' (ds.map (endOf true)) one two r 0 v W' ∧ Below W.heap.size W W') Q := by
  have hop := op_at ho (·.op) (x := .load 25 (.tmp 3)) (by kernel_rfl)
  have hgd := op_at ho (·.guard) (x := none) (by kernel_rfl)
  refine ⟨fun j b h => (by rw [hgd] at h; cases h), ?_⟩
  obtain ⟨q0, q1, q2⟩ := (hx.ext hB).cells
  exact specs_value (R := kindS Wd A n c A' n' c' (ds.map (endOf true)) one two r 0) (v := .agg #[.int .i64 Wd, .slice A n c, .slice A' n' c']) (by simp [execOp, hop, go_sem, ev o3, q0, q1, q2]) rfl (Ext.refl W)
theorem kind3_op1 (o3 : a.eval (.tmp 3) = .pointer (some ⟨p, 0, none⟩)) (hx : BathAt V p Wd A n c A' n' c' ss ds) (ho : kindReg3[1]? = some o) (hB : Ext V W) (haft : ∀ j, (o.after.any fun e => decide (e.on = j) && Region.binds .any e) = true → kindS Wd A n c A' n' c' (ds.map (endOf true)) one two r j (a.eval (.tmp (13 + j))) W) :
    (∀ j b, o.guard = some (j, b) → a.eval (.tmp (13 + j)) = .bool b) ∧ o.wp Try.prog a W (fun a'' W' => ∃ v, a'' = a.put o.dst v ∧ kindS Wd A n c A' n' c' (ds.map (endOf true)) one two r 1 v W' ∧ Below W.heap.size W W') Q := by
  have hop := op_at ho (·.op) (x := .load 25 (.tmp 3)) (by kernel_rfl)
  have hgd := op_at ho (·.guard) (x := none) (by kernel_rfl)
  refine ⟨fun j b h => (by rw [hgd] at h; cases h), ?_⟩
  obtain ⟨q0, q1, q2⟩ := (hx.ext hB).cells
  exact specs_value (R := kindS Wd A n c A' n' c' (ds.map (endOf true)) one two r 1) (v := .agg #[.int .i64 Wd, .slice A n c, .slice A' n' c']) (by simp [execOp, hop, go_sem, ev o3, q0, q1, q2]) rfl (Ext.refl W)
theorem kind3_op2 (hx : BathAt V p Wd A n c A' n' c' ss ds) (h0 : Few Wd ss ds) (ho : kindReg3[2]? = some o) (hB : Ext V W) (haft : ∀ j, (o.after.any fun e => decide (e.on = j) && Region.binds .any e) = true → kindS Wd A n c A' n' c' (ds.map (endOf true)) one two r j (a.eval (.tmp (13 + j))) W) :
    (∀ j b, o.guard = some (j, b) → a.eval (.tmp (13 + j)) = .bool b) ∧ o.wp Try.prog a W (fun a'' W' => ∃ v, a'' = a.put o.dst v ∧ kindS Wd A n c A' n' c' (ds.map (endOf true)) one two r 2 v W' ∧ Below W.heap.size W W') Q := by
  have hop := op_at ho (·.op) (x := .call { callee := .value (.func 61), args := #[.tmp 14, .const (.bool true)], argTypes := #[25, 4] }) (by kernel_rfl)
  have hgd := op_at ho (·.guard) (x := none) (by kernel_rfl)
  refine ⟨fun j b h => (by rw [hgd] at h; cases h), ?_⟩
  have e1 : a.eval (.tmp 14) = .agg #[.int .i64 Wd, .slice A n c, .slice A' n' c'] := haft 1 (op_at ho (fun o => o.after.any fun e => decide (e.on = 1) && Region.binds .any e) (x := true) (by kernel_rfl))
  have hX := hx.ext hB
  have hc := ends_ref (Wd := Wd) true hX.bath (by have := h0.many.2; have := hX.bath.nds; omega)
  exact specs_call (R := kindS Wd A n c A' n' c' (ds.map (endOf true)) one two r 2) (f := 61) (args := #[.agg #[.int .i64 Wd, .slice A n c, .slice A' n' c'], .bool true]) (by simp [execOp, hop, go_sem, ev e1]) (hc.mono fun e w' h => by
    obtain ⟨v, rfl, hM, hE⟩ := h
    exact ⟨v, rfl, made64_held hM, hE⟩)
theorem kind3_op3 (o1 : a.eval (.tmp 1) = .int .i64 one) (ho : kindReg3[3]? = some o) (hB : Ext V W) (haft : ∀ j, (o.after.any fun e => decide (e.on = j) && Region.binds .any e) = true → kindS Wd A n c A' n' c' (ds.map (endOf true)) one two r j (a.eval (.tmp (13 + j))) W) :
    (∀ j b, o.guard = some (j, b) → a.eval (.tmp (13 + j)) = .bool b) ∧ o.wp Try.prog a W (fun a'' W' => ∃ v, a'' = a.put o.dst v ∧ kindS Wd A n c A' n' c' (ds.map (endOf true)) one two r 3 v W' ∧ Below W.heap.size W W') Q := by
  have hop := op_at ho (·.op) (x := .move (.tmp 1)) (by kernel_rfl)
  have hgd := op_at ho (·.guard) (x := none) (by kernel_rfl)
  refine ⟨fun j b h => (by rw [hgd] at h; cases h), ?_⟩
  exact specs_value (R := kindS Wd A n c A' n' c' (ds.map (endOf true)) one two r 3) (v := .int .i64 one) (by simp [execOp, hop, go_sem, ev o1]) rfl (Ext.refl W)
theorem kind3_op4 (o2 : a.eval (.tmp 2) = .int .i64 two) (ho : kindReg3[4]? = some o) (hB : Ext V W) (haft : ∀ j, (o.after.any fun e => decide (e.on = j) && Region.binds .any e) = true → kindS Wd A n c A' n' c' (ds.map (endOf true)) one two r j (a.eval (.tmp (13 + j))) W) :
    (∀ j b, o.guard = some (j, b) → a.eval (.tmp (13 + j)) = .bool b) ∧ o.wp Try.prog a W (fun a'' W' => ∃ v, a'' = a.put o.dst v ∧ kindS Wd A n c A' n' c' (ds.map (endOf true)) one two r 4 v W' ∧ Below W.heap.size W W') Q := by
  have hop := op_at ho (·.op) (x := .move (.tmp 2)) (by kernel_rfl)
  have hgd := op_at ho (·.guard) (x := none) (by kernel_rfl)
  refine ⟨fun j b h => (by rw [hgd] at h; cases h), ?_⟩
  exact specs_value (R := kindS Wd A n c A' n' c' (ds.map (endOf true)) one two r 4) (v := .int .i64 two) (by simp [execOp, hop, go_sem, ev o2]) rfl (Ext.refl W)
theorem kind3_op5 (hx : BathAt V p Wd A n c A' n' c' ss ds) (h0 : Few Wd ss ds) (h1 : -2 ≤ one) (h1' : one < n) (h2 : -2 ≤ two) (h2' : two < n) (hne : one ≠ two) (hr : meetB Wd ss (fun j => sumAt ds (ds.map (endOf true)) j n') one two = r) (ho : kindReg3[5]? = some o) (hB : Ext V W) (haft : ∀ j, (o.after.any fun e => decide (e.on = j) && Region.binds .any e) = true → kindS Wd A n c A' n' c' (ds.map (endOf true)) one two r j (a.eval (.tmp (13 + j))) W) :
    (∀ j b, o.guard = some (j, b) → a.eval (.tmp (13 + j)) = .bool b) ∧ o.wp Try.prog a W (fun a'' W' => ∃ v, a'' = a.put o.dst v ∧ kindS Wd A n c A' n' c' (ds.map (endOf true)) one two r 5 v W' ∧ Below W.heap.size W W') Q := by
  have hop := op_at ho (·.op) (x := .call { callee := .value (.func 46), args := #[.tmp 13, .tmp 15, .tmp 16, .tmp 17], argTypes := #[25, 55, 3, 3] }) (by kernel_rfl)
  have hgd := op_at ho (·.guard) (x := none) (by kernel_rfl)
  refine ⟨fun j b h => (by rw [hgd] at h; cases h), ?_⟩
  have e0 : a.eval (.tmp 13) = .agg #[.int .i64 Wd, .slice A n c, .slice A' n' c'] := haft 0 (op_at ho (fun o => o.after.any fun e => decide (e.on = 0) && Region.binds .any e) (x := true) (by kernel_rfl))
  obtain ⟨T, cT, e2, hT⟩ := haft 2 (op_at ho (fun o => o.after.any fun e => decide (e.on = 2) && Region.binds .any e) (x := true) (by kernel_rfl))
  rw [show 13 + 2 = 15 from rfl] at e2
  have e3 : a.eval (.tmp 16) = .int .i64 one := haft 3 (op_at ho (fun o => o.after.any fun e => decide (e.on = 3) && Region.binds .any e) (x := true) (by kernel_rfl))
  have e4 : a.eval (.tmp 17) = .int .i64 two := haft 4 (op_at ho (fun o => o.after.any fun e => decide (e.on = 4) && Region.binds .any e) (x := true) (by kernel_rfl))
  have hX := hx.ext hB
  have hc := touches_ref (Wd := Wd) T _ cT (ds.map (endOf true)) h0 hX.bath rfl (by rw [List.length_map, hX.bath.nds]; exact Nat.le_refl _) (by rw [List.length_map]; have := h0.many.2; omega) hT (ends_bd h0 true) one two h1 h1' h2 h2' hne
  rw [hr] at hc
  exact specs_call (R := kindS Wd A n c A' n' c' (ds.map (endOf true)) one two r 5) (f := 46) (args := #[.agg #[.int .i64 Wd, .slice A n c, .slice A' n' c'], .slice T (ds.map (endOf true)).length cT, .int .i64 one, .int .i64 two]) (by simp [execOp, hop, go_sem, ev e0, ev e2, ev e3, ev e4]) (hc.mono fun e w' h => ⟨_, h.1, rfl, h.2⟩)
end
end Go.Proofs.Ytgdpgdnhhjclcaa

/- The reference's kind, Touch. -/
namespace Go.Proofs.Ytgdpgdnhhjclcaa
open Go.RowKit Go.Shelf

section
variable {w : World} {Wd : Int} {A : Option Addr} {n c : Nat} {A' : Option Addr} {n' c' : Nat} {ss : List (Int × Int)} {ds : List (Int × Int × Int)}

set_option maxRecDepth 100000 in
set_option maxHeartbeats 4000000 in
theorem kind_ref (one two : Int) (h0 : Few Wd ss ds) (hb : IsBath w w.heap.size A n c A' n' c' ss ds) (h1 : -2 ≤ one) (h1' : one < n) (h2 : -2 ≤ two) (h2' : two < n) (hne : one ≠ two) :
    Calls Try.prog 71 #[.agg #[.int .i64 Wd, .slice A n c, .slice A' n' c'], .int .i64 one, .int .i64 two] w fun e w' => e = .returned (.int .i64 (kindOf Wd ss (sizes ds) one two)) ∧ Ext w w' := by
  obtain ⟨r1, hr1⟩ : ∃ r, meetB Wd ss (fun j => sumAt ds (ds.map (endOf false)) j n') one two = r := ⟨_, rfl⟩
  obtain ⟨r2, hr2⟩ : ∃ r, meetB Wd ss (fun j => sumAt ds (ds.map (endOf true)) j n') one two = r := ⟨_, rfl⟩
  have hans : kindOf Wd ss (sizes ds) one two = if r1 then 2 else if r2 then 1 else 0 := by
    have e1 := hr1
    have e2 := hr2
    rw [hb.nds, meet_ends] at e1 e2
    unfold kindOf
    simp only [Bool.false_eq_true, if_false, if_true] at e1 e2
    rw [e1, e2]
  rw [hans]
  clear hans
  have h00 := BathAt.new (Wd := Wd) hb
  obtain ⟨w0, hw0⟩ : ∃ w0, w.alloc (.cells #[.int .i64 Wd, .slice A n c, .slice A' n' c'] 25) = w0 := ⟨_, rfl⟩
  have e0 : Ext w w0 := by rw [← hw0]; exact ext_alloc w _
  rw [hw0] at h00
  have HW := Lib.hid hw0
  have HX := Lib.hid h00
  have HE := Lib.hid e0
  clear hw0 h00 e0 hb
  go_enter Try.func71, Try.ntmps71
  go_upto_region 1 with fail
  rw [HW.out]
  clear HW
  generalize w.heap.size = p0 at HX ⊢
  refine wp_region_specs (ops := kindReg1) (kindS Wd A n c A' n' c' (ds.map (endOf false)) one two r1) (Ext w0) (by kernel_rfl) (by kernel_rfl) ⟨rfl, rfl, rfl, Nat.le_refl _, fun _ _ => rfl⟩ (fun _ _ h e => h.trans e) (kindS_ext Wd A n c A' n' c' (ds.map (endOf false)) one two r1) (fun k => 7 + k) (by kernel_rfl) ?_ ?_
  · intro k o ho a W hB hsz hold haft
    have hk : k < 6 := (Array.getElem?_eq_some_iff.1 ho).1
    match k, hk with
    | 0, _ => exact kind1_op0 (hold 3 (by kernel_rfl)) HX.out ho hB haft
    | 1, _ => exact kind1_op1 (hold 3 (by kernel_rfl)) HX.out ho hB haft
    | 2, _ => exact kind1_op2 HX.out h0 ho hB haft
    | 3, _ => exact kind1_op3 (hold 1 (by kernel_rfl)) ho hB haft
    | 4, _ => exact kind1_op4 (hold 2 (by kernel_rfl)) ho hB haft
    | 5, _ => exact kind1_op5 HX.out h0 h1 h1' h2 h2' hne hr1 ho hB haft
    | k + 6, h => exact absurd h (by omega)
  · intro a W hB hsz hdf hold hS
    have hsize : 6 = kindReg1.size := by kernel_rfl
    obtain ⟨T, cT, e2, _⟩ : IntsAt (ds.map (endOf false)) (a.eval (.tmp 9)) W := hS 2 (by rw [← hsize]; omega)
    have hall : ∀ x, x ∈ ([(7, .agg #[.int .i64 Wd, .slice A n c, .slice A' n' c']), (8, .agg #[.int .i64 Wd, .slice A n c, .slice A' n' c']), (9, .slice T (ds.map (endOf false)).length cT), (10, .int .i64 one), (11, .int .i64 two), (12, .bool r1)] : List (Tmp × Value)) → x.1 < 19 ∧ a.eval (.tmp x.1) = x.2 := by
      intro x hx
      simp only [List.mem_cons, List.not_mem_nil, or_false] at hx
      rcases hx with rfl | rfl | rfl | rfl | rfl | rfl
      · exact ⟨(show (7 : Nat) < 19 by omega), hS 0 (by rw [← hsize]; omega)⟩
      · exact ⟨(show (8 : Nat) < 19 by omega), hS 1 (by rw [← hsize]; omega)⟩
      · exact ⟨(show (9 : Nat) < 19 by omega), e2⟩
      · exact ⟨(show (10 : Nat) < 19 by omega), hS 3 (by rw [← hsize]; omega)⟩
      · exact ⟨(show (11 : Nat) < 19 by omega), hS 4 (by rw [← hsize]; omega)⟩
      · exact ⟨(show (12 : Nat) < 19 by omega), hS 5 (by rw [← hsize]; omega)⟩
    have ha := act_puts hsz hdf hall (fun t ht => hold t (all_ne_of (l := [(7, .agg #[.int .i64 Wd, .slice A n c, .slice A' n' c']), (8, .agg #[.int .i64 Wd, .slice A n c, .slice A' n' c']), (9, .slice T (ds.map (endOf false)).length cT), (10, .int .i64 one), (11, .int .i64 two), (12, .bool r1)]) (by kernel_rfl) ht))
    clear hall hS hold hsz hdf e2 hsize
    rw [ha]
    clear ha
    simp only [Exit.then, puts, List.foldl_cons, List.foldl_nil, Act.put, List.setIfInBounds_toArray, List.set_cons_succ, List.set_cons_zero]
    go_at_K
    have HE2 := Lib.hid (HE.out.trans hB)
    have HX2 := Lib.hid (HX.out.ext hB)
    clear HX HE hB hr1
    cases r1 with
    | true =>
      go_wp2
      go_ret
      exact ⟨rfl, HE2.out⟩
    | false =>
      go_upto_region 3 with fail
      refine wp_region_specs (ops := kindReg3) (kindS Wd A n c A' n' c' (ds.map (endOf true)) one two r2) (Ext W) (by kernel_rfl) (by kernel_rfl) ⟨rfl, rfl, rfl, Nat.le_refl _, fun _ _ => rfl⟩ (fun _ _ h e => h.trans e) (kindS_ext Wd A n c A' n' c' (ds.map (endOf true)) one two r2) (fun k => 13 + k) (by kernel_rfl) ?_ ?_
      · intro k o ho a W2 hB hsz hold haft
        have hk : k < 6 := (Array.getElem?_eq_some_iff.1 ho).1
        match k, hk with
        | 0, _ => exact kind3_op0 (hold 3 (by kernel_rfl)) HX2.out ho hB haft
        | 1, _ => exact kind3_op1 (hold 3 (by kernel_rfl)) HX2.out ho hB haft
        | 2, _ => exact kind3_op2 HX2.out h0 ho hB haft
        | 3, _ => exact kind3_op3 (hold 1 (by kernel_rfl)) ho hB haft
        | 4, _ => exact kind3_op4 (hold 2 (by kernel_rfl)) ho hB haft
        | 5, _ => exact kind3_op5 HX2.out h0 h1 h1' h2 h2' hne hr2 ho hB haft
        | k + 6, h => exact absurd h (by omega)
      · intro a W2 hB hsz hdf hold hS
        have hsize : 6 = kindReg3.size := by kernel_rfl
        obtain ⟨T, cT, e2, _⟩ : IntsAt (ds.map (endOf true)) (a.eval (.tmp 15)) W2 := hS 2 (by rw [← hsize]; omega)
        have hall : ∀ x, x ∈ ([(13, .agg #[.int .i64 Wd, .slice A n c, .slice A' n' c']), (14, .agg #[.int .i64 Wd, .slice A n c, .slice A' n' c']), (15, .slice T (ds.map (endOf true)).length cT), (16, .int .i64 one), (17, .int .i64 two), (18, .bool r2)] : List (Tmp × Value)) → x.1 < 19 ∧ a.eval (.tmp x.1) = x.2 := by
          intro x hx
          simp only [List.mem_cons, List.not_mem_nil, or_false] at hx
          rcases hx with rfl | rfl | rfl | rfl | rfl | rfl
          · exact ⟨(show (13 : Nat) < 19 by omega), hS 0 (by rw [← hsize]; omega)⟩
          · exact ⟨(show (14 : Nat) < 19 by omega), hS 1 (by rw [← hsize]; omega)⟩
          · exact ⟨(show (15 : Nat) < 19 by omega), e2⟩
          · exact ⟨(show (16 : Nat) < 19 by omega), hS 3 (by rw [← hsize]; omega)⟩
          · exact ⟨(show (17 : Nat) < 19 by omega), hS 4 (by rw [← hsize]; omega)⟩
          · exact ⟨(show (18 : Nat) < 19 by omega), hS 5 (by rw [← hsize]; omega)⟩
        have ha := act_puts hsz hdf hall (fun t ht => hold t (all_ne_of (l := [(13, .agg #[.int .i64 Wd, .slice A n c, .slice A' n' c']), (14, .agg #[.int .i64 Wd, .slice A n c, .slice A' n' c']), (15, .slice T (ds.map (endOf true)).length cT), (16, .int .i64 one), (17, .int .i64 two), (18, .bool r2)]) (by kernel_rfl) ht))
        clear hall hS hold hsz hdf e2 hsize
        rw [ha]
        clear ha
        simp only [Exit.then, puts, List.foldl_cons, List.foldl_nil, Act.put, List.setIfInBounds_toArray, List.set_cons_succ, List.set_cons_zero]
        go_at_K
        have HE3 := Lib.hid (HE2.out.trans hB)
        clear HX2 HE2 hB hr2
        cases r2 with
        | true =>
          go_wp2
          go_ret
          exact ⟨rfl, HE3.out⟩
        | false =>
          go_wp2
          go_ret
          exact ⟨rfl, HE3.out⟩

set_option maxRecDepth 100000 in
set_option maxHeartbeats 1000000 in
theorem touch_ref (one two : Int) (hb : IsBath w w.heap.size A n c A' n' c' ss ds) :
    Calls Try.prog 22 #[.agg #[.int .i64 Wd, .slice A n c, .slice A' n' c'], .int .i64 one, .int .i64 two] w fun e w' => e = .returned (.tuple #[.int .i64 (touchAns Wd ss ds one two).1, .int .i64 (touchAns Wd ss ds one two).2]) ∧ Ext w w' := by
  have cP : ∀ W : World, IsBath W W.heap.size A n c A' n' c' ss ds → _ := fun W h => places_ref (Wd := Wd) one two h
  have hX0 : BathAt (w.alloc (.cells #[.int .i64 Wd, .slice A n c, .slice A' n' c'] 25)) w.heap.size Wd A n c A' n' c' ss ds := BathAt.new hb
  have hE0 : Ext w (w.alloc (.cells #[.int .i64 Wd, .slice A n c, .slice A' n' c'] 25)) := ext_alloc w _
  have hnn := hb.nss
  clear hb
  by_cases he : forErr Wd ss ds one two = 0
  · have ha : touchAns Wd ss ds one two = (kindOf Wd ss (sizes ds) one two, 0) := by unfold touchAns; rw [if_pos he]
    rw [ha]
    obtain ⟨g0, g1, g2, g3⟩ := forErr_ok he
    rw [he] at cP
    rw [← hnn] at g2 g3
    have cK : ∀ W : World, IsBath W W.heap.size A n c A' n' c' ss ds → _ := fun W h => kind_ref (Wd := Wd) one two (bath_few g0) h g2.1 g2.2 g3.1 g3.2 g1
    generalize kindOf Wd ss (sizes ds) one two = r at cK ⊢
    clear ha he g0 g1 g2 g3 hnn
    go_enter Try.func22, Try.ntmps22
    go_wp2_with fail
    refine (cP _ hX0.bath).mono ?_
    rintro e w1 ⟨rfl, hb1⟩
    have hX1 := hX0.ext hb1
    have hE1 := Lib.hid (hE0.trans hb1)
    clear hX0 hE0 hb1
    obtain ⟨q0, q1, q2⟩ := hX1.cells
    go_wp2_with fail
    refine (cK _ hX1.bath).mono ?_
    rintro e w2 ⟨rfl, hb2⟩
    go_wp2
    go_ret2
    exact ⟨rfl, hE1.out.trans hb2⟩
  · have ha : touchAns Wd ss ds one two = (0, forErr Wd ss ds one two) := by unfold touchAns; rw [if_neg he]
    rw [ha]
    generalize forErr Wd ss ds one two = r at he cP ⊢
    have hne2 : (r != 0) = true := by simpa using he
    clear ha hnn
    go_enter Try.func22, Try.ntmps22
    go_wp2_with fail
    refine (cP _ hX0.bath).mono ?_
    rintro e w1 ⟨rfl, hb1⟩
    have hX1 := hX0.ext hb1
    have hE1 := Lib.hid (hE0.trans hb1)
    clear hX0 hE0 hb1
    obtain ⟨q0, q1, q2⟩ := hX1.cells
    go_wp2_with fail
    refine (cP _ hX1.bath).mono ?_
    rintro e w2 ⟨rfl, hb2⟩
    go_wp2
    go_ret2
    exact ⟨rfl, hE1.out.trans hb2⟩
end
end Go.Proofs.Ytgdpgdnhhjclcaa

/- The reference's Alone, holds, Part. -/
namespace Go.Proofs.Ytgdpgdnhhjclcaa
open Go.RowKit Go.Shelf

section
variable {w : World} {Wd : Int} {A : Option Addr} {n c : Nat} {A' : Option Addr} {n' c' : Nat} {ss : List (Int × Int)} {ds : List (Int × Int × Int)}

theorem freeB_iff (sz : Nat → Int × Int) (s : Int) : freeB Wd ss sz n s = true ↔ ∀ k, k < n + 2 → apartB Wd ss sz s ((k : Int) - 2) = true := by
  unfold freeB
  rw [List.all_eq_true]
  constructor
  · intro h k hk
    exact h ⟨k, hk⟩ (List.mem_finRange _)
  · intro h k _
    exact h k.val k.isLt

set_option maxRecDepth 100000 in
set_option maxHeartbeats 2000000 in
theorem alone_ref (s : Nat) (h0 : Few Wd ss ds) (hb : IsBath w w.heap.size A n c A' n' c' ss ds) (hs : s < n) :
    Calls Try.prog 48 #[.agg #[.int .i64 Wd, .slice A n c, .slice A' n' c'], .int .i64 (s : Int)] w fun e w' => e = .returned (.bool (freeB Wd ss (sizes ds) n s)) ∧ Ext w w' := by
  have h00 := BathAt.new (Wd := Wd) hb
  have hn10 : n ≤ 10 := by have := h0.many.1; have := hb.nss; omega
  have cK : ∀ (x : Int), -2 ≤ x → x < n → (s : Int) ≠ x → ∀ W : World, IsBath W W.heap.size A n c A' n' c' ss ds → _ := fun x hx1 hx2 hne W h => kind_ref (Wd := Wd) (s : Int) x h0 h (by omega) (by omega) hx1 hx2 hne
  obtain ⟨ans, hans⟩ : ∃ ans, freeB Wd ss (sizes ds) n s = ans := ⟨_, rfl⟩
  rw [hans]
  have HANS := Lib.hid hans
  have CK := Lib.hid cK
  clear hb hans h0 cK
  go_enter Try.func48, Try.ntmps48
  go_wp2
  obtain ⟨w0, hw0⟩ : ∃ w0, w.alloc (.cells #[.int .i64 Wd, .slice A n c, .slice A' n' c'] 25) = w0 := ⟨_, rfl⟩
  have e0 : Ext w w0 := by rw [← hw0]; exact ext_alloc w _
  rw [hw0] at h00 ⊢
  have E0 := Lib.hid e0
  have H0 := Lib.hid h00
  clear hw0 e0 h00
  go_loopw [5] (fun i wr => ∃ j : Nat, j ≤ n + 2 ∧ i = .int .i64 ((j : Int) - 2) ∧ Hid (Ext w0 wr) ∧ Hid (∀ m, m < j → apartB Wd ss (sizes ds) s ((m : Int) - 2) = true)) (fun i _ => (n + 2) - (intOf i + 2).toNat)
  case atStart => exact ⟨0, Nat.zero_le _, rfl, Lib.hid (Ext.refl _), Lib.hid (fun m hm => absurd hm (by omega))⟩
  case round =>
    obtain ⟨j, hj, rfl, hB, hN⟩ := hrel
    have hx := H0.out.ext hB.out
    obtain ⟨q0, q1, q2⟩ := hx.cells
    by_cases hlt : j < n + 2
    · have hltz : (j : Int) - 2 < (n : Int) := by omega
      by_cases hjs : (j : Int) - 2 = (s : Int)
      · have e1 : ((j : Int) - 2 != (s : Int)) = false := by simp [hjs]
        have hN1 : Hid (∀ m, m < j + 1 → apartB Wd ss (sizes ds) s ((m : Int) - 2) = true) := Lib.hid fun m hm => by
          by_cases e : m = j
          · subst e
            simp [apartB, hjs]
          · exact hN.out m (by omega)
        clear hN hx hjs
        go_wp2
        go_roundw
        case measure => simp [intOf]; omega
        case rel => exact ⟨j + 1, by omega, by go_num, hB, hN1⟩
      · have e1 : ((j : Int) - 2 != (s : Int)) = true := by simp [hjs]
        have cC := CK.out ((j : Int) - 2) (by omega) hltz (fun e => hjs e.symm) _ hx.bath
        obtain ⟨kd, hkd⟩ : ∃ kd, kindOf Wd ss (sizes ds) s ((j : Int) - 2) = kd := ⟨_, rfl⟩
        rw [hkd] at cC
        by_cases hk0 : kd = 0
        · subst hk0
          have hN1 : Hid (∀ m, m < j + 1 → apartB Wd ss (sizes ds) s ((m : Int) - 2) = true) := Lib.hid fun m hm => by
            by_cases e : m = j
            · subst e
              simp [apartB, hkd]
            · exact hN.out m (by omega)
          clear hN hx hjs hkd
          go_wp2_with (go_at_call 71; refine cC.mono ?_; rintro e w2 ⟨rfl, hb2⟩)
          go_roundw
          case measure => simp [intOf]; omega
          case rel => exact ⟨j + 1, by omega, by go_num, Lib.hid (hB.out.trans hb2), hN1⟩
        · have e2 : (kd != 0) = true := by simp [hk0]
          obtain rfl : ans = false := by
            rw [← HANS.out, Bool.eq_false_iff]
            intro hf
            have := (freeB_iff _ _).1 hf j hlt
            simp only [apartB, Bool.or_eq_true, decide_eq_true_eq] at this
            rcases this with h | h
            · exact hjs h
            · exact hk0 (hkd.symm.trans h)
          clear hN hx hjs hkd
          go_wp2_with (go_at_call 71; refine cC.mono ?_; rintro e w2 ⟨rfl, hb2⟩)
          go_ret
          exact ⟨rfl, E0.out.trans (hB.out.trans hb2)⟩
    · have hltz : ¬ (j : Int) - 2 < (n : Int) := by omega
      obtain rfl : ans = true := by
        rw [← HANS.out]
        exact (freeB_iff _ _).2 fun k hk => hN.out k (by omega)
      clear hx
      go_wp2
      go_ret
      exact ⟨rfl, E0.out.trans hB.out⟩

/-- Whether two places hold together. -/
def holdsB (Wd : Int) (ss : List (Int × Int)) (ds : List (Int × Int × Int)) (one two : Int) (sure : Bool) : Bool := decide (kindOf Wd ss (sizes ds) one two = 2) || (!sure && decide (kindOf Wd ss (sizes ds) one two = 1))

set_option maxHeartbeats 1000000 in
theorem holds_ref (one two : Int) (sure : Bool) (h0 : Few Wd ss ds) (hb : IsBath w w.heap.size A n c A' n' c' ss ds) (h1 : -2 ≤ one) (h1' : one < n) (h2 : -2 ≤ two) (h2' : two < n) (hne : one ≠ two) :
    Calls Try.prog 91 #[.agg #[.int .i64 Wd, .slice A n c, .slice A' n' c'], .int .i64 one, .int .i64 two, .bool sure] w fun e w' => e = .returned (.bool (holdsB Wd ss ds one two sure)) ∧ Ext w w' := by
  have hX0 : BathAt (w.alloc (.cells #[.int .i64 Wd, .slice A n c, .slice A' n' c'] 25)) w.heap.size Wd A n c A' n' c' ss ds := BathAt.new hb
  have hE0 : Ext w (w.alloc (.cells #[.int .i64 Wd, .slice A n c, .slice A' n' c'] 25)) := ext_alloc w _
  have cK : ∀ W : World, IsBath W W.heap.size A n c A' n' c' ss ds → _ := fun W h => kind_ref (Wd := Wd) one two h0 h h1 h1' h2 h2' hne
  unfold holdsB
  generalize kindOf Wd ss (sizes ds) one two = kd at cK ⊢
  clear hb h0 h1 h1' h2 h2' hne
  by_cases hk : kd = 2
  · subst hk
    go_enter Try.func91, Try.ntmps91
    go_wp2_with fail
    refine (cK _ hX0.bath).mono ?_
    rintro e w1 ⟨rfl, hb1⟩
    go_wp2
    go_ret
    exact ⟨ret_bool (by simp), hE0.trans hb1⟩
  · have e1 : (kd == 2) = false := by simp [hk]
    cases sure with
    | true =>
      go_enter Try.func91, Try.ntmps91
      go_wp2_with fail
      refine (cK _ hX0.bath).mono ?_
      rintro e w1 ⟨rfl, hb1⟩
      go_wp2
      go_ret
      exact ⟨ret_bool (by simp [hk]), hE0.trans hb1⟩
    | false =>
      have HK := Lib.hid hk
      clear hk
      go_enter Try.func91, Try.ntmps91
      go_wp2_with fail
      refine (cK _ hX0.bath).mono ?_
      rintro e w1 ⟨rfl, hb1⟩
      have hX1 := hX0.ext hb1
      have hE1 := Lib.hid (hE0.trans hb1)
      clear hX0 hE0 hb1
      obtain ⟨q0, q1, q2⟩ := hX1.cells
      go_wp2_with fail
      refine (cK _ hX1.bath).mono ?_
      rintro e w2 ⟨rfl, hb2⟩
      have HE := Lib.hid (hE1.out.trans hb2)
      clear hX1 hE1 hb2 cK q0 q1 q2
      by_cases hk1 : kd = 1
      · have e2 : (kd == 1) = true := by simp [hk1]
        go_wp2
        go_ret
        exact ⟨ret_bool (by simp [hk1]), HE.out⟩
      · have e2 : (kd == 1) = false := by simp [hk1]
        go_wp2
        go_ret
        exact ⟨ret_bool (by simp [hk1, HK.out]), HE.out⟩

theorem IsBath.part (h : IsBath w w.heap.size A n c A' n' c' ss ds) {k : Nat} (hk : k ≤ n') (hn : A' ≠ none ∨ k = 0) : IsBath w w.heap.size A n c A' k c' ss (ds.take k) :=
  ⟨h.nss, by rw [List.length_take]; have := h.nds; omega, h.nle, by have := h.nle'; omega, h.cap, by have := h.cap'; omega, h.hss, by
    rcases h.hds with e | ⟨b, off, e, hlt, hc⟩
    · exact .inl (by rw [e]; simp)
    · refine .inr ⟨b, off, e, hlt, fun j x hj i v hi => hc j x ?_ i v hi⟩
      rw [List.getElem?_take] at hj
      split at hj
      · exact hj
      · cases hj⟩
end
end Go.Proofs.Ytgdpgdnhhjclcaa
