/- Texts of the package drop, joined: TouchWalls, RefKind, RefTouch, RefBeside, RefBesideAns, RefAlone, RefFirst, RefFirstAns. -/
import Derived.Test.YtgdpgdnhhjclcaaTu20
import Derived.Deep.Cut
/- The reference's Touches: whether two places touch, in a truth. -/
namespace Go.Proofs.Ytgdpgdnhhjclcaa
open Go.RowKit Go.Shelf

section
variable {w : World} {Wd : Int} {A : Option Addr} {n c : Nat} {A' : Option Addr} {n' c' : Nat} {ss : List (Int × Int)} {ds : List (Int × Int × Int)}

theorem spot_bd (h0 : Few Wd ss ds) {i : Nat} (hi : i < ss.length) {X Y : Int} (h : ss.getD i (0, 0) = (X, Y)) : 1 ≤ X ∧ X ≤ Wd - 1 ∧ 0 ≤ Y ∧ Y ≤ 1000 ∧ Wd ≤ 1000 := by
  have e : ss[i] = (X, Y) := by rw [← h]; simp [List.getElem?_eq_getElem hi]
  have h1 := List.all_eq_true.1 h0.spots ss[i] (List.getElem_mem hi)
  rw [e] at h1
  simp only [spotOk, inside, Bool.and_eq_true, decide_eq_true_eq, List.all_cons, List.all_nil] at h1
  have := h0.wide
  omega

set_option maxHeartbeats 400000 in
theorem touches_none (T : Option Addr) (m cT : Nat) (one two : Int) (h1 : one < 0) (h2 : two < 0) :
    Calls Try.prog 46 #[.agg #[.int .i64 Wd, .slice A n c, .slice A' n' c'], .slice T m cT, .int .i64 one, .int .i64 two] w fun e w' => e = .returned (.bool false) ∧ Ext w w' := by
  go_enter Try.func46, Try.ntmps46
  go_wp2
  go_ret
  exact ⟨rfl, ext_alloc w _⟩
theorem sq_comm (a b : Int) : (a - b) * (a - b) = (b - a) * (b - a) := by rw [← Int.neg_mul_neg]; simp [Int.neg_sub]
theorem reachB_comm (a c d : Int) : reachB a c d = reachB c a d := by
  unfold reachB
  by_cases h1 : a = 0 <;> by_cases h2 : c = 0 <;> simp [h1, h2]
  rw [show d - c - a = d - a - c from by omega, show 4 * c * a = 4 * a * c from by rw [Int.mul_assoc, Int.mul_comm c a, Int.mul_assoc]]

set_option maxRecDepth 100000 in
set_option maxHeartbeats 4000000 in
theorem touches_ns_l (T : Option Addr) (m cT : Nat) (ts : List Int) (h0 : Few Wd ss ds) (hb : IsBath w w.heap.size A n c A' n' c' ss ds) (hm : m = ts.length) (hmn : n' ≤ m) (hmm : m ≤ 9223372036854775807) (ht : Held w w.heap.size 1 encI T ts) (hbd : ∀ k, 0 ≤ ts.getD k 0 ∧ ts.getD k 0 ≤ 10000) (i : Nat) (hi : i < n) :
    Calls Try.prog 46 #[.agg #[.int .i64 Wd, .slice A n c, .slice A' n' c'], .slice T m cT, .int .i64 (i : Int), .int .i64 (-1)] w fun e w' => e = .returned (.bool (meetB Wd ss (fun j => sumAt ds ts j n') (-1) i)) ∧ Ext w w' := by
  have h100 : n' ≤ 100 := by have := h0.many.2; have := hb.nds; omega
  have hiN : i < n := hi
  have hin : (i : Int) < (n : Int) := by omega
  have hi0 : decide ((i : Int) < 0) = false := by simp
  have h00 := BathAt.new (Wd := Wd) hb
  obtain ⟨b, off, rfl, _, _⟩ := h00.spot hi
  obtain ⟨X, Y, hiXY⟩ : ∃ X Y, ss.getD i (0, 0) = (X, Y) := ⟨_, _, rfl⟩
  obtain ⟨bx1, bx2, by1, by2, bw⟩ := spot_bd h0 (by rw [← hb.nss]; exact hi) hiXY
  obtain ⟨s, hs⟩ : ∃ s, sumAt ds ts i n' = s := ⟨_, rfl⟩
  have hsb := sumAt_bd ds ts i hbd n'
  rw [hs] at hsb
  obtain ⟨bs1, bs2⟩ := hsb
  have bs3 : s ≤ 1000000 := by omega
  have hres : meetB Wd ss (fun j => sumAt ds ts j n') (-1) i = decide (X * X ≤ s) := by rw [meetB_left, hiXY]; simp only [hs]
  rw [hres]
  clear hres
  have bm := mul_bd (a := X) (b := X) (M := 1000) (N := 1000) (by omega) (by omega) (by omega) (by omega)
  have bm1 : 1 ≤ X * X := by have := Int.mul_le_mul (a := 1) (b := 1) (c := X) (d := X) (by omega) (by omega) (by omega) (by omega); omega
  obtain ⟨w0, hw0⟩ : ∃ w0, w.alloc (.cells #[.int .i64 Wd, .slice (some ⟨b, off, none⟩) n c, .slice A' n' c'] 25) = w0 := ⟨_, rfl⟩
  have e0 : Ext w w0 := by rw [← hw0]; exact ext_alloc w _
  rw [hw0] at h00
  have HW := Lib.hid hw0
  have HX := Lib.hid h00
  have HT := Lib.hid ht
  have HV5 := Lib.hid e0
  clear hw0 h00 ht e0 hb h0
  go_enter Try.func46, Try.ntmps46
  go_upto_region 5 with fail
  rw [HW.out]
  clear HW
  generalize w.heap.size = p0 at HX ⊢
  refine wp_region_specs_free (ops := touchReg5) 11 (sizeSpotS Wd b off n c A' n' c' T m cT i s X Y p0 w0.heap.size) (Ext w0) (by kernel_rfl) (by kernel_rfl) (by kernel_rfl) ⟨rfl, rfl, rfl, Nat.le_refl _, fun _ _ => rfl⟩ (fun _ _ h e => h.trans e) (sizeSpotS_ext Wd b off n c A' n' c' T m cT i s X Y p0 w0.heap.size) touchD5 (by kernel_rfl) ?_ ?_
  · intro k o hk ho a W hB hsz hold haft
    match k, hk with
    | 0, _ => exact touch5_op0 (hold 4 (by kernel_rfl)) HX.out ho hB haft
    | 1, _ => exact touch5_op1 (hold 1 (by kernel_rfl)) ho hB haft
    | 2, _ => exact touch5_op2 (hold 2 (by kernel_rfl)) ho hB haft
    | 3, _ => exact touch5_op3 HX.out h100 hm hmn hmm (HT.out.ext HV5.out) hbd hs ho hB haft
    | 4, _ => exact touch5_op4 (hold 4 (by kernel_rfl)) ho hB haft
    | 5, _ => exact touch5_op5 (hold 4 (by kernel_rfl)) HX.out ho hB haft
    | 6, _ => exact touch5_op6 (hold 2 (by kernel_rfl)) ho hB haft
    | 7, _ => exact touch5_op7 hin ho hB haft
    | 8, _ => exact touch5_op8 HX.out hiN hiXY ho hB haft
    | 9, _ => exact touch5_op9 (Nat.le_refl _) ho hB haft
    | 10, _ => exact touch5_op10  ho hB haft
    | k + 11, h => exact absurd h (by omega)
  · intro a W hB hsz hdf hold hS
    obtain ⟨g, e9, hN, hr⟩ : ∃ g, a.eval (.tmp 10) = .pointer (some ⟨g, 0, none⟩) ∧ w0.heap.size ≤ g ∧ W.heap[g]? = some (.cells #[.int .i64 0, .int .i64 0] 74 (0, 0)) := hS 9 (by omega)
    have hall : ∀ x, x ∈ ([(24, .agg #[.int .i64 Wd, .slice (some ⟨b, off, none⟩) n c, .slice A' n' c']), (25, .slice T m cT), (26, .int .i64 (i : Int)), (27, .int .i64 s), (28, .pointer (some ⟨p0, 1, none⟩)), (29, .slice (some ⟨b, off, none⟩) n c), (30, .int .i64 (i : Int)), (31, .pointer (some ⟨b, off + i * 2, none⟩)), (32, .agg #[.int .i64 X, .int .i64 Y]), (10, .pointer (some ⟨g, 0, none⟩)), (9, .int .i64 s)] : List (Tmp × Value)) → x.1 < 116 ∧ a.eval (.tmp x.1) = x.2 := by
      intro x hx
      simp only [List.mem_cons, List.not_mem_nil, or_false] at hx
      rcases hx with rfl | rfl | rfl | rfl | rfl | rfl | rfl | rfl | rfl | rfl | rfl
      · exact ⟨(show (24 : Nat) < 116 by omega), hS 0 (by omega)⟩
      · exact ⟨(show (25 : Nat) < 116 by omega), hS 1 (by omega)⟩
      · exact ⟨(show (26 : Nat) < 116 by omega), hS 2 (by omega)⟩
      · exact ⟨(show (27 : Nat) < 116 by omega), hS 3 (by omega)⟩
      · exact ⟨(show (28 : Nat) < 116 by omega), hS 4 (by omega)⟩
      · exact ⟨(show (29 : Nat) < 116 by omega), hS 5 (by omega)⟩
      · exact ⟨(show (30 : Nat) < 116 by omega), hS 6 (by omega)⟩
      · exact ⟨(show (31 : Nat) < 116 by omega), hS 7 (by omega)⟩
      · exact ⟨(show (32 : Nat) < 116 by omega), hS 8 (by omega)⟩
      · exact ⟨(show (10 : Nat) < 116 by omega), e9⟩
      · exact ⟨(show (9 : Nat) < 116 by omega), hS 10 (by omega)⟩
    have ha := act_puts hsz hdf hall (fun t ht => hold t (all_ne_of (l := [(24, .agg #[.int .i64 Wd, .slice (some ⟨b, off, none⟩) n c, .slice A' n' c']), (25, .slice T m cT), (26, .int .i64 (i : Int)), (27, .int .i64 s), (28, .pointer (some ⟨p0, 1, none⟩)), (29, .slice (some ⟨b, off, none⟩) n c), (30, .int .i64 (i : Int)), (31, .pointer (some ⟨b, off + i * 2, none⟩)), (32, .agg #[.int .i64 X, .int .i64 Y]), (10, .pointer (some ⟨g, 0, none⟩)), (9, .int .i64 s)]) (by kernel_rfl) ht))
    have e8 : a.eval (.tmp 32) = .agg #[.int .i64 X, .int .i64 Y] := hS 8 (by omega)
    clear hall hS hold hsz hdf
    obtain ⟨o11, hdr, h11⟩ := drop_one (ops := touchReg5) (k := 11) (by kernel_rfl)
    rw [hdr]
    refine wpList_store_row (op_at h11 (·.guard) (x := none) (by kernel_rfl)) 74 (.tmp 10) (.tmp 32) (op_at h11 (·.op) (by kernel_rfl)) g #[.int .i64 X, .int .i64 Y] e9 e8 74 _ hr (by kernel_rfl) rfl (by simp [Value.oneCell']) ?_
    rw [show o11.dst = none from op_at h11 (·.dst) (by kernel_rfl)]
    clear hdr h11
    obtain ⟨W5, hW, hg5, hE5⟩ : ∃ W', W.setRow g #[.int .i64 X, .int .i64 Y] = W' ∧ W'.heap[g]? = some (.cells #[.int .i64 X, .int .i64 Y] 74 (0, 0)) ∧ Ext w0 W' := ⟨_, rfl, row_setRow _ _ _ _ _ _ hr, below_setRow hB hN _⟩
    rw [hW]
    clear hW hr hN hB e8 e9
    show Exit.then _ _ _ a _
    rw [ha]
    clear ha
    simp only [Exit.then, puts, List.foldl_cons, List.foldl_nil, Act.put, List.setIfInBounds_toArray, List.set_cons_succ, List.set_cons_zero]
    go_at_K
    obtain ⟨q0, q1, q2⟩ := (HX.out.ext hE5).cells
    have g0 := cell_of_row _ _ 0 _ _ _ hg5
    have g1 := cell_of_row _ _ 1 _ _ _ hg5
    simp at g0 g1
    have HE := Lib.hid (HV5.out.trans hE5)
    clear HX HV5 HT hE5 hg5 hbd hs hiXY
    by_cases hz : s = 0
    · subst hz
      go_wp2
      go_ret
      exact ⟨ret_bool (by simp; omega), HE.out⟩
    · have hz2 : (s == 0) = false := by simp [hz]
      go_wp2
      go_ret
      exact ⟨ret_bool (by simp), HE.out⟩
set_option maxRecDepth 100000 in
set_option maxHeartbeats 4000000 in
theorem touches_ns_r (T : Option Addr) (m cT : Nat) (ts : List Int) (h0 : Few Wd ss ds) (hb : IsBath w w.heap.size A n c A' n' c' ss ds) (hm : m = ts.length) (hmn : n' ≤ m) (hmm : m ≤ 9223372036854775807) (ht : Held w w.heap.size 1 encI T ts) (hbd : ∀ k, 0 ≤ ts.getD k 0 ∧ ts.getD k 0 ≤ 10000) (i : Nat) (hi : i < n) :
    Calls Try.prog 46 #[.agg #[.int .i64 Wd, .slice A n c, .slice A' n' c'], .slice T m cT, .int .i64 (i : Int), .int .i64 (-2)] w fun e w' => e = .returned (.bool (meetB Wd ss (fun j => sumAt ds ts j n') (-2) i)) ∧ Ext w w' := by
  have h100 : n' ≤ 100 := by have := h0.many.2; have := hb.nds; omega
  have hiN : i < n := hi
  have hin : (i : Int) < (n : Int) := by omega
  have hi0 : decide ((i : Int) < 0) = false := by simp
  have h00 := BathAt.new (Wd := Wd) hb
  obtain ⟨b, off, rfl, _, _⟩ := h00.spot hi
  obtain ⟨X, Y, hiXY⟩ : ∃ X Y, ss.getD i (0, 0) = (X, Y) := ⟨_, _, rfl⟩
  obtain ⟨bx1, bx2, by1, by2, bw⟩ := spot_bd h0 (by rw [← hb.nss]; exact hi) hiXY
  obtain ⟨s, hs⟩ : ∃ s, sumAt ds ts i n' = s := ⟨_, rfl⟩
  have hsb := sumAt_bd ds ts i hbd n'
  rw [hs] at hsb
  obtain ⟨bs1, bs2⟩ := hsb
  have bs3 : s ≤ 1000000 := by omega
  have hres : meetB Wd ss (fun j => sumAt ds ts j n') (-2) i = decide ((Wd - X) * (Wd - X) ≤ s) := by rw [meetB_right, hiXY]; simp only [hs]
  rw [hres]
  clear hres
  have bm := mul_bd (a := (Wd - X)) (b := (Wd - X)) (M := 1000) (N := 1000) (by omega) (by omega) (by omega) (by omega)
  have bm1 : 1 ≤ (Wd - X) * (Wd - X) := by have := Int.mul_le_mul (a := 1) (b := 1) (c := (Wd - X)) (d := (Wd - X)) (by omega) (by omega) (by omega) (by omega); omega
  obtain ⟨w0, hw0⟩ : ∃ w0, w.alloc (.cells #[.int .i64 Wd, .slice (some ⟨b, off, none⟩) n c, .slice A' n' c'] 25) = w0 := ⟨_, rfl⟩
  have e0 : Ext w w0 := by rw [← hw0]; exact ext_alloc w _
  rw [hw0] at h00
  have HW := Lib.hid hw0
  have HX := Lib.hid h00
  have HT := Lib.hid ht
  have HV5 := Lib.hid e0
  clear hw0 h00 ht e0 hb h0
  go_enter Try.func46, Try.ntmps46
  go_upto_region 5 with fail
  rw [HW.out]
  clear HW
  generalize w.heap.size = p0 at HX ⊢
  refine wp_region_specs_free (ops := touchReg5) 11 (sizeSpotS Wd b off n c A' n' c' T m cT i s X Y p0 w0.heap.size) (Ext w0) (by kernel_rfl) (by kernel_rfl) (by kernel_rfl) ⟨rfl, rfl, rfl, Nat.le_refl _, fun _ _ => rfl⟩ (fun _ _ h e => h.trans e) (sizeSpotS_ext Wd b off n c A' n' c' T m cT i s X Y p0 w0.heap.size) touchD5 (by kernel_rfl) ?_ ?_
  · intro k o hk ho a W hB hsz hold haft
    match k, hk with
    | 0, _ => exact touch5_op0 (hold 4 (by kernel_rfl)) HX.out ho hB haft
    | 1, _ => exact touch5_op1 (hold 1 (by kernel_rfl)) ho hB haft
    | 2, _ => exact touch5_op2 (hold 2 (by kernel_rfl)) ho hB haft
    | 3, _ => exact touch5_op3 HX.out h100 hm hmn hmm (HT.out.ext HV5.out) hbd hs ho hB haft
    | 4, _ => exact touch5_op4 (hold 4 (by kernel_rfl)) ho hB haft
    | 5, _ => exact touch5_op5 (hold 4 (by kernel_rfl)) HX.out ho hB haft
    | 6, _ => exact touch5_op6 (hold 2 (by kernel_rfl)) ho hB haft
    | 7, _ => exact touch5_op7 hin ho hB haft
    | 8, _ => exact touch5_op8 HX.out hiN hiXY ho hB haft
    | 9, _ => exact touch5_op9 (Nat.le_refl _) ho hB haft
    | 10, _ => exact touch5_op10  ho hB haft
    | k + 11, h => exact absurd h (by omega)
  · intro a W hB hsz hdf hold hS
    obtain ⟨g, e9, hN, hr⟩ : ∃ g, a.eval (.tmp 10) = .pointer (some ⟨g, 0, none⟩) ∧ w0.heap.size ≤ g ∧ W.heap[g]? = some (.cells #[.int .i64 0, .int .i64 0] 74 (0, 0)) := hS 9 (by omega)
    have hall : ∀ x, x ∈ ([(24, .agg #[.int .i64 Wd, .slice (some ⟨b, off, none⟩) n c, .slice A' n' c']), (25, .slice T m cT), (26, .int .i64 (i : Int)), (27, .int .i64 s), (28, .pointer (some ⟨p0, 1, none⟩)), (29, .slice (some ⟨b, off, none⟩) n c), (30, .int .i64 (i : Int)), (31, .pointer (some ⟨b, off + i * 2, none⟩)), (32, .agg #[.int .i64 X, .int .i64 Y]), (10, .pointer (some ⟨g, 0, none⟩)), (9, .int .i64 s)] : List (Tmp × Value)) → x.1 < 116 ∧ a.eval (.tmp x.1) = x.2 := by
      intro x hx
      simp only [List.mem_cons, List.not_mem_nil, or_false] at hx
      rcases hx with rfl | rfl | rfl | rfl | rfl | rfl | rfl | rfl | rfl | rfl | rfl
      · exact ⟨(show (24 : Nat) < 116 by omega), hS 0 (by omega)⟩
      · exact ⟨(show (25 : Nat) < 116 by omega), hS 1 (by omega)⟩
      · exact ⟨(show (26 : Nat) < 116 by omega), hS 2 (by omega)⟩
      · exact ⟨(show (27 : Nat) < 116 by omega), hS 3 (by omega)⟩
      · exact ⟨(show (28 : Nat) < 116 by omega), hS 4 (by omega)⟩
      · exact ⟨(show (29 : Nat) < 116 by omega), hS 5 (by omega)⟩
      · exact ⟨(show (30 : Nat) < 116 by omega), hS 6 (by omega)⟩
      · exact ⟨(show (31 : Nat) < 116 by omega), hS 7 (by omega)⟩
      · exact ⟨(show (32 : Nat) < 116 by omega), hS 8 (by omega)⟩
      · exact ⟨(show (10 : Nat) < 116 by omega), e9⟩
      · exact ⟨(show (9 : Nat) < 116 by omega), hS 10 (by omega)⟩
    have ha := act_puts hsz hdf hall (fun t ht => hold t (all_ne_of (l := [(24, .agg #[.int .i64 Wd, .slice (some ⟨b, off, none⟩) n c, .slice A' n' c']), (25, .slice T m cT), (26, .int .i64 (i : Int)), (27, .int .i64 s), (28, .pointer (some ⟨p0, 1, none⟩)), (29, .slice (some ⟨b, off, none⟩) n c), (30, .int .i64 (i : Int)), (31, .pointer (some ⟨b, off + i * 2, none⟩)), (32, .agg #[.int .i64 X, .int .i64 Y]), (10, .pointer (some ⟨g, 0, none⟩)), (9, .int .i64 s)]) (by kernel_rfl) ht))
    have e8 : a.eval (.tmp 32) = .agg #[.int .i64 X, .int .i64 Y] := hS 8 (by omega)
    clear hall hS hold hsz hdf
    obtain ⟨o11, hdr, h11⟩ := drop_one (ops := touchReg5) (k := 11) (by kernel_rfl)
    rw [hdr]
    refine wpList_store_row (op_at h11 (·.guard) (x := none) (by kernel_rfl)) 74 (.tmp 10) (.tmp 32) (op_at h11 (·.op) (by kernel_rfl)) g #[.int .i64 X, .int .i64 Y] e9 e8 74 _ hr (by kernel_rfl) rfl (by simp [Value.oneCell']) ?_
    rw [show o11.dst = none from op_at h11 (·.dst) (by kernel_rfl)]
    clear hdr h11
    obtain ⟨W5, hW, hg5, hE5⟩ : ∃ W', W.setRow g #[.int .i64 X, .int .i64 Y] = W' ∧ W'.heap[g]? = some (.cells #[.int .i64 X, .int .i64 Y] 74 (0, 0)) ∧ Ext w0 W' := ⟨_, rfl, row_setRow _ _ _ _ _ _ hr, below_setRow hB hN _⟩
    rw [hW]
    clear hW hr hN hB e8 e9
    show Exit.then _ _ _ a _
    rw [ha]
    clear ha
    simp only [Exit.then, puts, List.foldl_cons, List.foldl_nil, Act.put, List.setIfInBounds_toArray, List.set_cons_succ, List.set_cons_zero]
    go_at_K
    obtain ⟨q0, q1, q2⟩ := (HX.out.ext hE5).cells
    have g0 := cell_of_row _ _ 0 _ _ _ hg5
    have g1 := cell_of_row _ _ 1 _ _ _ hg5
    simp at g0 g1
    have HE := Lib.hid (HV5.out.trans hE5)
    clear HX HV5 HT hE5 hg5 hbd hs hiXY
    by_cases hz : s = 0
    · subst hz
      go_wp2
      go_ret
      exact ⟨ret_bool (by simp; omega), HE.out⟩
    · have hz2 : (s == 0) = false := by simp [hz]
      go_wp2
      go_ret
      exact ⟨ret_bool (by simp), HE.out⟩
set_option maxRecDepth 100000 in
set_option maxHeartbeats 4000000 in
theorem touches_sw_l (T : Option Addr) (m cT : Nat) (ts : List Int) (h0 : Few Wd ss ds) (hb : IsBath w w.heap.size A n c A' n' c' ss ds) (hm : m = ts.length) (hmn : n' ≤ m) (hmm : m ≤ 9223372036854775807) (ht : Held w w.heap.size 1 encI T ts) (hbd : ∀ k, 0 ≤ ts.getD k 0 ∧ ts.getD k 0 ≤ 10000) (i : Nat) (hi : i < n) :
    Calls Try.prog 46 #[.agg #[.int .i64 Wd, .slice A n c, .slice A' n' c'], .slice T m cT, .int .i64 (-1), .int .i64 (i : Int)] w fun e w' => e = .returned (.bool (meetB Wd ss (fun j => sumAt ds ts j n') (-1) i)) ∧ Ext w w' := by
  have h100 : n' ≤ 100 := by have := h0.many.2; have := hb.nds; omega
  have hiN : i < n := hi
  have hin : (i : Int) < (n : Int) := by omega
  have hi0 : decide ((i : Int) < 0) = false := by simp
  have h00 := BathAt.new (Wd := Wd) hb
  obtain ⟨b, off, rfl, _, _⟩ := h00.spot hi
  obtain ⟨X, Y, hiXY⟩ : ∃ X Y, ss.getD i (0, 0) = (X, Y) := ⟨_, _, rfl⟩
  obtain ⟨bx1, bx2, by1, by2, bw⟩ := spot_bd h0 (by rw [← hb.nss]; exact hi) hiXY
  obtain ⟨s, hs⟩ : ∃ s, sumAt ds ts i n' = s := ⟨_, rfl⟩
  have hsb := sumAt_bd ds ts i hbd n'
  rw [hs] at hsb
  obtain ⟨bs1, bs2⟩ := hsb
  have bs3 : s ≤ 1000000 := by omega
  have hres : meetB Wd ss (fun j => sumAt ds ts j n') (-1) i = decide (X * X ≤ s) := by rw [meetB_left, hiXY]; simp only [hs]
  rw [hres]
  clear hres
  have bm := mul_bd (a := X) (b := X) (M := 1000) (N := 1000) (by omega) (by omega) (by omega) (by omega)
  have bm1 : 1 ≤ X * X := by have := Int.mul_le_mul (a := 1) (b := 1) (c := X) (d := X) (by omega) (by omega) (by omega) (by omega); omega
  obtain ⟨w0, hw0⟩ : ∃ w0, w.alloc (.cells #[.int .i64 Wd, .slice (some ⟨b, off, none⟩) n c, .slice A' n' c'] 25) = w0 := ⟨_, rfl⟩
  have e0 : Ext w w0 := by rw [← hw0]; exact ext_alloc w _
  rw [hw0] at h00
  have HW := Lib.hid hw0
  have HX := Lib.hid h00
  have HT := Lib.hid ht
  have HV5 := Lib.hid e0
  clear hw0 h00 ht e0 hb h0
  go_enter Try.func46, Try.ntmps46
  go_upto_region 5 with fail
  rw [HW.out]
  clear HW
  generalize w.heap.size = p0 at HX ⊢
  refine wp_region_specs_free (ops := touchReg5) 11 (sizeSpotS Wd b off n c A' n' c' T m cT i s X Y p0 w0.heap.size) (Ext w0) (by kernel_rfl) (by kernel_rfl) (by kernel_rfl) ⟨rfl, rfl, rfl, Nat.le_refl _, fun _ _ => rfl⟩ (fun _ _ h e => h.trans e) (sizeSpotS_ext Wd b off n c A' n' c' T m cT i s X Y p0 w0.heap.size) touchD5 (by kernel_rfl) ?_ ?_
  · intro k o hk ho a W hB hsz hold haft
    match k, hk with
    | 0, _ => exact touch5_op0 (hold 4 (by kernel_rfl)) HX.out ho hB haft
    | 1, _ => exact touch5_op1 (hold 1 (by kernel_rfl)) ho hB haft
    | 2, _ => exact touch5_op2 (hold 2 (by kernel_rfl)) ho hB haft
    | 3, _ => exact touch5_op3 HX.out h100 hm hmn hmm (HT.out.ext HV5.out) hbd hs ho hB haft
    | 4, _ => exact touch5_op4 (hold 4 (by kernel_rfl)) ho hB haft
    | 5, _ => exact touch5_op5 (hold 4 (by kernel_rfl)) HX.out ho hB haft
    | 6, _ => exact touch5_op6 (hold 2 (by kernel_rfl)) ho hB haft
    | 7, _ => exact touch5_op7 hin ho hB haft
    | 8, _ => exact touch5_op8 HX.out hiN hiXY ho hB haft
    | 9, _ => exact touch5_op9 (Nat.le_refl _) ho hB haft
    | 10, _ => exact touch5_op10  ho hB haft
    | k + 11, h => exact absurd h (by omega)
  · intro a W hB hsz hdf hold hS
    obtain ⟨g, e9, hN, hr⟩ : ∃ g, a.eval (.tmp 10) = .pointer (some ⟨g, 0, none⟩) ∧ w0.heap.size ≤ g ∧ W.heap[g]? = some (.cells #[.int .i64 0, .int .i64 0] 74 (0, 0)) := hS 9 (by omega)
    have hall : ∀ x, x ∈ ([(24, .agg #[.int .i64 Wd, .slice (some ⟨b, off, none⟩) n c, .slice A' n' c']), (25, .slice T m cT), (26, .int .i64 (i : Int)), (27, .int .i64 s), (28, .pointer (some ⟨p0, 1, none⟩)), (29, .slice (some ⟨b, off, none⟩) n c), (30, .int .i64 (i : Int)), (31, .pointer (some ⟨b, off + i * 2, none⟩)), (32, .agg #[.int .i64 X, .int .i64 Y]), (10, .pointer (some ⟨g, 0, none⟩)), (9, .int .i64 s)] : List (Tmp × Value)) → x.1 < 116 ∧ a.eval (.tmp x.1) = x.2 := by
      intro x hx
      simp only [List.mem_cons, List.not_mem_nil, or_false] at hx
      rcases hx with rfl | rfl | rfl | rfl | rfl | rfl | rfl | rfl | rfl | rfl | rfl
      · exact ⟨(show (24 : Nat) < 116 by omega), hS 0 (by omega)⟩
      · exact ⟨(show (25 : Nat) < 116 by omega), hS 1 (by omega)⟩
      · exact ⟨(show (26 : Nat) < 116 by omega), hS 2 (by omega)⟩
      · exact ⟨(show (27 : Nat) < 116 by omega), hS 3 (by omega)⟩
      · exact ⟨(show (28 : Nat) < 116 by omega), hS 4 (by omega)⟩
      · exact ⟨(show (29 : Nat) < 116 by omega), hS 5 (by omega)⟩
      · exact ⟨(show (30 : Nat) < 116 by omega), hS 6 (by omega)⟩
      · exact ⟨(show (31 : Nat) < 116 by omega), hS 7 (by omega)⟩
      · exact ⟨(show (32 : Nat) < 116 by omega), hS 8 (by omega)⟩
      · exact ⟨(show (10 : Nat) < 116 by omega), e9⟩
      · exact ⟨(show (9 : Nat) < 116 by omega), hS 10 (by omega)⟩
    have ha := act_puts hsz hdf hall (fun t ht => hold t (all_ne_of (l := [(24, .agg #[.int .i64 Wd, .slice (some ⟨b, off, none⟩) n c, .slice A' n' c']), (25, .slice T m cT), (26, .int .i64 (i : Int)), (27, .int .i64 s), (28, .pointer (some ⟨p0, 1, none⟩)), (29, .slice (some ⟨b, off, none⟩) n c), (30, .int .i64 (i : Int)), (31, .pointer (some ⟨b, off + i * 2, none⟩)), (32, .agg #[.int .i64 X, .int .i64 Y]), (10, .pointer (some ⟨g, 0, none⟩)), (9, .int .i64 s)]) (by kernel_rfl) ht))
    have e8 : a.eval (.tmp 32) = .agg #[.int .i64 X, .int .i64 Y] := hS 8 (by omega)
    clear hall hS hold hsz hdf
    obtain ⟨o11, hdr, h11⟩ := drop_one (ops := touchReg5) (k := 11) (by kernel_rfl)
    rw [hdr]
    refine wpList_store_row (op_at h11 (·.guard) (x := none) (by kernel_rfl)) 74 (.tmp 10) (.tmp 32) (op_at h11 (·.op) (by kernel_rfl)) g #[.int .i64 X, .int .i64 Y] e9 e8 74 _ hr (by kernel_rfl) rfl (by simp [Value.oneCell']) ?_
    rw [show o11.dst = none from op_at h11 (·.dst) (by kernel_rfl)]
    clear hdr h11
    obtain ⟨W5, hW, hg5, hE5⟩ : ∃ W', W.setRow g #[.int .i64 X, .int .i64 Y] = W' ∧ W'.heap[g]? = some (.cells #[.int .i64 X, .int .i64 Y] 74 (0, 0)) ∧ Ext w0 W' := ⟨_, rfl, row_setRow _ _ _ _ _ _ hr, below_setRow hB hN _⟩
    rw [hW]
    clear hW hr hN hB e8 e9
    show Exit.then _ _ _ a _
    rw [ha]
    clear ha
    simp only [Exit.then, puts, List.foldl_cons, List.foldl_nil, Act.put, List.setIfInBounds_toArray, List.set_cons_succ, List.set_cons_zero]
    go_at_K
    obtain ⟨q0, q1, q2⟩ := (HX.out.ext hE5).cells
    have g0 := cell_of_row _ _ 0 _ _ _ hg5
    have g1 := cell_of_row _ _ 1 _ _ _ hg5
    simp at g0 g1
    have HE := Lib.hid (HV5.out.trans hE5)
    clear HX HV5 HT hE5 hg5 hbd hs hiXY
    by_cases hz : s = 0
    · subst hz
      go_wp2
      go_ret
      exact ⟨ret_bool (by simp; omega), HE.out⟩
    · have hz2 : (s == 0) = false := by simp [hz]
      go_wp2
      go_ret
      exact ⟨ret_bool (by simp), HE.out⟩
set_option maxRecDepth 100000 in
set_option maxHeartbeats 4000000 in
theorem touches_sw_r (T : Option Addr) (m cT : Nat) (ts : List Int) (h0 : Few Wd ss ds) (hb : IsBath w w.heap.size A n c A' n' c' ss ds) (hm : m = ts.length) (hmn : n' ≤ m) (hmm : m ≤ 9223372036854775807) (ht : Held w w.heap.size 1 encI T ts) (hbd : ∀ k, 0 ≤ ts.getD k 0 ∧ ts.getD k 0 ≤ 10000) (i : Nat) (hi : i < n) :
    Calls Try.prog 46 #[.agg #[.int .i64 Wd, .slice A n c, .slice A' n' c'], .slice T m cT, .int .i64 (-2), .int .i64 (i : Int)] w fun e w' => e = .returned (.bool (meetB Wd ss (fun j => sumAt ds ts j n') (-2) i)) ∧ Ext w w' := by
  have h100 : n' ≤ 100 := by have := h0.many.2; have := hb.nds; omega
  have hiN : i < n := hi
  have hin : (i : Int) < (n : Int) := by omega
  have hi0 : decide ((i : Int) < 0) = false := by simp
  have h00 := BathAt.new (Wd := Wd) hb
  obtain ⟨b, off, rfl, _, _⟩ := h00.spot hi
  obtain ⟨X, Y, hiXY⟩ : ∃ X Y, ss.getD i (0, 0) = (X, Y) := ⟨_, _, rfl⟩
  obtain ⟨bx1, bx2, by1, by2, bw⟩ := spot_bd h0 (by rw [← hb.nss]; exact hi) hiXY
  obtain ⟨s, hs⟩ : ∃ s, sumAt ds ts i n' = s := ⟨_, rfl⟩
  have hsb := sumAt_bd ds ts i hbd n'
  rw [hs] at hsb
  obtain ⟨bs1, bs2⟩ := hsb
  have bs3 : s ≤ 1000000 := by omega
  have hres : meetB Wd ss (fun j => sumAt ds ts j n') (-2) i = decide ((Wd - X) * (Wd - X) ≤ s) := by rw [meetB_right, hiXY]; simp only [hs]
  rw [hres]
  clear hres
  have bm := mul_bd (a := (Wd - X)) (b := (Wd - X)) (M := 1000) (N := 1000) (by omega) (by omega) (by omega) (by omega)
  have bm1 : 1 ≤ (Wd - X) * (Wd - X) := by have := Int.mul_le_mul (a := 1) (b := 1) (c := (Wd - X)) (d := (Wd - X)) (by omega) (by omega) (by omega) (by omega); omega
  obtain ⟨w0, hw0⟩ : ∃ w0, w.alloc (.cells #[.int .i64 Wd, .slice (some ⟨b, off, none⟩) n c, .slice A' n' c'] 25) = w0 := ⟨_, rfl⟩
  have e0 : Ext w w0 := by rw [← hw0]; exact ext_alloc w _
  rw [hw0] at h00
  have HW := Lib.hid hw0
  have HX := Lib.hid h00
  have HT := Lib.hid ht
  have HV5 := Lib.hid e0
  clear hw0 h00 ht e0 hb h0
  go_enter Try.func46, Try.ntmps46
  go_upto_region 5 with fail
  rw [HW.out]
  clear HW
  generalize w.heap.size = p0 at HX ⊢
  refine wp_region_specs_free (ops := touchReg5) 11 (sizeSpotS Wd b off n c A' n' c' T m cT i s X Y p0 w0.heap.size) (Ext w0) (by kernel_rfl) (by kernel_rfl) (by kernel_rfl) ⟨rfl, rfl, rfl, Nat.le_refl _, fun _ _ => rfl⟩ (fun _ _ h e => h.trans e) (sizeSpotS_ext Wd b off n c A' n' c' T m cT i s X Y p0 w0.heap.size) touchD5 (by kernel_rfl) ?_ ?_
  · intro k o hk ho a W hB hsz hold haft
    match k, hk with
    | 0, _ => exact touch5_op0 (hold 4 (by kernel_rfl)) HX.out ho hB haft
    | 1, _ => exact touch5_op1 (hold 1 (by kernel_rfl)) ho hB haft
    | 2, _ => exact touch5_op2 (hold 2 (by kernel_rfl)) ho hB haft
    | 3, _ => exact touch5_op3 HX.out h100 hm hmn hmm (HT.out.ext HV5.out) hbd hs ho hB haft
    | 4, _ => exact touch5_op4 (hold 4 (by kernel_rfl)) ho hB haft
    | 5, _ => exact touch5_op5 (hold 4 (by kernel_rfl)) HX.out ho hB haft
    | 6, _ => exact touch5_op6 (hold 2 (by kernel_rfl)) ho hB haft
    | 7, _ => exact touch5_op7 hin ho hB haft
    | 8, _ => exact touch5_op8 HX.out hiN hiXY ho hB haft
    | 9, _ => exact touch5_op9 (Nat.le_refl _) ho hB haft
    | 10, _ => exact touch5_op10  ho hB haft
    | k + 11, h => exact absurd h (by omega)
  · intro a W hB hsz hdf hold hS
    obtain ⟨g, e9, hN, hr⟩ : ∃ g, a.eval (.tmp 10) = .pointer (some ⟨g, 0, none⟩) ∧ w0.heap.size ≤ g ∧ W.heap[g]? = some (.cells #[.int .i64 0, .int .i64 0] 74 (0, 0)) := hS 9 (by omega)
    have hall : ∀ x, x ∈ ([(24, .agg #[.int .i64 Wd, .slice (some ⟨b, off, none⟩) n c, .slice A' n' c']), (25, .slice T m cT), (26, .int .i64 (i : Int)), (27, .int .i64 s), (28, .pointer (some ⟨p0, 1, none⟩)), (29, .slice (some ⟨b, off, none⟩) n c), (30, .int .i64 (i : Int)), (31, .pointer (some ⟨b, off + i * 2, none⟩)), (32, .agg #[.int .i64 X, .int .i64 Y]), (10, .pointer (some ⟨g, 0, none⟩)), (9, .int .i64 s)] : List (Tmp × Value)) → x.1 < 116 ∧ a.eval (.tmp x.1) = x.2 := by
      intro x hx
      simp only [List.mem_cons, List.not_mem_nil, or_false] at hx
      rcases hx with rfl | rfl | rfl | rfl | rfl | rfl | rfl | rfl | rfl | rfl | rfl
      · exact ⟨(show (24 : Nat) < 116 by omega), hS 0 (by omega)⟩
      · exact ⟨(show (25 : Nat) < 116 by omega), hS 1 (by omega)⟩
      · exact ⟨(show (26 : Nat) < 116 by omega), hS 2 (by omega)⟩
      · exact ⟨(show (27 : Nat) < 116 by omega), hS 3 (by omega)⟩
      · exact ⟨(show (28 : Nat) < 116 by omega), hS 4 (by omega)⟩
      · exact ⟨(show (29 : Nat) < 116 by omega), hS 5 (by omega)⟩
      · exact ⟨(show (30 : Nat) < 116 by omega), hS 6 (by omega)⟩
      · exact ⟨(show (31 : Nat) < 116 by omega), hS 7 (by omega)⟩
      · exact ⟨(show (32 : Nat) < 116 by omega), hS 8 (by omega)⟩
      · exact ⟨(show (10 : Nat) < 116 by omega), e9⟩
      · exact ⟨(show (9 : Nat) < 116 by omega), hS 10 (by omega)⟩
    have ha := act_puts hsz hdf hall (fun t ht => hold t (all_ne_of (l := [(24, .agg #[.int .i64 Wd, .slice (some ⟨b, off, none⟩) n c, .slice A' n' c']), (25, .slice T m cT), (26, .int .i64 (i : Int)), (27, .int .i64 s), (28, .pointer (some ⟨p0, 1, none⟩)), (29, .slice (some ⟨b, off, none⟩) n c), (30, .int .i64 (i : Int)), (31, .pointer (some ⟨b, off + i * 2, none⟩)), (32, .agg #[.int .i64 X, .int .i64 Y]), (10, .pointer (some ⟨g, 0, none⟩)), (9, .int .i64 s)]) (by kernel_rfl) ht))
    have e8 : a.eval (.tmp 32) = .agg #[.int .i64 X, .int .i64 Y] := hS 8 (by omega)
    clear hall hS hold hsz hdf
    obtain ⟨o11, hdr, h11⟩ := drop_one (ops := touchReg5) (k := 11) (by kernel_rfl)
    rw [hdr]
    refine wpList_store_row (op_at h11 (·.guard) (x := none) (by kernel_rfl)) 74 (.tmp 10) (.tmp 32) (op_at h11 (·.op) (by kernel_rfl)) g #[.int .i64 X, .int .i64 Y] e9 e8 74 _ hr (by kernel_rfl) rfl (by simp [Value.oneCell']) ?_
    rw [show o11.dst = none from op_at h11 (·.dst) (by kernel_rfl)]
    clear hdr h11
    obtain ⟨W5, hW, hg5, hE5⟩ : ∃ W', W.setRow g #[.int .i64 X, .int .i64 Y] = W' ∧ W'.heap[g]? = some (.cells #[.int .i64 X, .int .i64 Y] 74 (0, 0)) ∧ Ext w0 W' := ⟨_, rfl, row_setRow _ _ _ _ _ _ hr, below_setRow hB hN _⟩
    rw [hW]
    clear hW hr hN hB e8 e9
    show Exit.then _ _ _ a _
    rw [ha]
    clear ha
    simp only [Exit.then, puts, List.foldl_cons, List.foldl_nil, Act.put, List.setIfInBounds_toArray, List.set_cons_succ, List.set_cons_zero]
    go_at_K
    obtain ⟨q0, q1, q2⟩ := (HX.out.ext hE5).cells
    have g0 := cell_of_row _ _ 0 _ _ _ hg5
    have g1 := cell_of_row _ _ 1 _ _ _ hg5
    simp at g0 g1
    have HE := Lib.hid (HV5.out.trans hE5)
    clear HX HV5 HT hE5 hg5 hbd hs hiXY
    by_cases hz : s = 0
    · subst hz
      go_wp2
      go_ret
      exact ⟨ret_bool (by simp; omega), HE.out⟩
    · have hz2 : (s == 0) = false := by simp [hz]
      go_wp2
      go_ret
      exact ⟨ret_bool (by simp), HE.out⟩
set_option maxRecDepth 100000 in
set_option maxHeartbeats 8000000 in
theorem touches_spots (T : Option Addr) (m cT : Nat) (ts : List Int) (h0 : Few Wd ss ds) (hb : IsBath w w.heap.size A n c A' n' c' ss ds) (hm : m = ts.length) (hmn : n' ≤ m) (hmm : m ≤ 9223372036854775807) (ht : Held w w.heap.size 1 encI T ts) (hbd : ∀ k, 0 ≤ ts.getD k 0 ∧ ts.getD k 0 ≤ 10000) (i j : Nat) (hi : i < n) (hj : j < n) :
    Calls Try.prog 46 #[.agg #[.int .i64 Wd, .slice A n c, .slice A' n' c'], .slice T m cT, .int .i64 (i : Int), .int .i64 (j : Int)] w fun e w' => e = .returned (.bool (reachB (sumAt ds ts i n') (sumAt ds ts j n') (((ss.getD i (0, 0)).1 - (ss.getD j (0, 0)).1) * ((ss.getD i (0, 0)).1 - (ss.getD j (0, 0)).1) + ((ss.getD i (0, 0)).2 - (ss.getD j (0, 0)).2) * ((ss.getD i (0, 0)).2 - (ss.getD j (0, 0)).2)))) ∧ Ext w w' := by
  have h100 : n' ≤ 100 := by have := h0.many.2; have := hb.nds; omega
  have hiN : i < n := hi
  have hin : (i : Int) < (n : Int) := by omega
  have hi0 : decide ((i : Int) < 0) = false := by simp
  have h00 := BathAt.new (Wd := Wd) hb
  obtain ⟨b, off, rfl, _, _⟩ := h00.spot hi
  obtain ⟨X, Y, hiXY⟩ : ∃ X Y, ss.getD i (0, 0) = (X, Y) := ⟨_, _, rfl⟩
  obtain ⟨bx1, bx2, by1, by2, bw⟩ := spot_bd h0 (by rw [← hb.nss]; exact hi) hiXY
  obtain ⟨s, hs⟩ : ∃ s, sumAt ds ts i n' = s := ⟨_, rfl⟩
  have hsb := sumAt_bd ds ts i hbd n'
  rw [hs] at hsb
  obtain ⟨bs1, bs2⟩ := hsb
  have bs3 : s ≤ 1000000 := by omega
  have hjN : j < n := hj
  have hjn : (j : Int) < (n : Int) := by omega
  have hj0 : decide ((j : Int) < 0) = false := by simp
  have hj1 : ((j : Int) == -1) = false := by simp
  have hj2 : ((j : Int) == -2) = false := by simp
  obtain ⟨X2, Y2, hjXY⟩ : ∃ X Y, ss.getD j (0, 0) = (X, Y) := ⟨_, _, rfl⟩
  obtain ⟨cx1, cx2, cy1, cy2, _⟩ := spot_bd h0 (by rw [← hb.nss]; exact hj) hjXY
  obtain ⟨s2, hs2⟩ : ∃ s, sumAt ds ts j n' = s := ⟨_, rfl⟩
  have hsb2 := sumAt_bd ds ts j hbd n'
  rw [hs2] at hsb2
  obtain ⟨cs1, cs2⟩ := hsb2
  have cs3 : s2 ≤ 1000000 := by omega
  rw [hs, hs2, hiXY, hjXY]
  have b1 : 0 ≤ (X - X2) * (X - X2) ∧ (X - X2) * (X - X2) ≤ 1000000 := by
    rcases Int.le_total X2 X with h | h
    · exact mul_bd (a := X - X2) (b := X - X2) (M := 1000) (N := 1000) (by omega) (by omega) (by omega) (by omega)
    · rw [show (X - X2) * (X - X2) = (X2 - X) * (X2 - X) from by rw [← Int.neg_mul_neg]; simp [Int.neg_sub]]
      exact mul_bd (a := X2 - X) (b := X2 - X) (M := 1000) (N := 1000) (by omega) (by omega) (by omega) (by omega)
  have b2 : 0 ≤ (Y - Y2) * (Y - Y2) ∧ (Y - Y2) * (Y - Y2) ≤ 1000000 := by
    rcases Int.le_total Y2 Y with h | h
    · exact mul_bd (a := Y - Y2) (b := Y - Y2) (M := 1000) (N := 1000) (by omega) (by omega) (by omega) (by omega)
    · rw [show (Y - Y2) * (Y - Y2) = (Y2 - Y) * (Y2 - Y) from by rw [← Int.neg_mul_neg]; simp [Int.neg_sub]]
      exact mul_bd (a := Y2 - Y) (b := Y2 - Y) (M := 1000) (N := 1000) (by omega) (by omega) (by omega) (by omega)
  obtain ⟨w0, hw0⟩ : ∃ w0, w.alloc (.cells #[.int .i64 Wd, .slice (some ⟨b, off, none⟩) n c, .slice A' n' c'] 25) = w0 := ⟨_, rfl⟩
  have e0 : Ext w w0 := by rw [← hw0]; exact ext_alloc w _
  rw [hw0] at h00
  have HW := Lib.hid hw0
  have HX := Lib.hid h00
  have HT := Lib.hid ht
  have HV5 := Lib.hid e0
  clear hw0 h00 ht e0 hb h0
  go_enter Try.func46, Try.ntmps46
  go_upto_region 5 with fail
  rw [HW.out]
  clear HW
  generalize w.heap.size = p0 at HX ⊢
  refine wp_region_specs_free (ops := touchReg5) 11 (sizeSpotS Wd b off n c A' n' c' T m cT i s X Y p0 w0.heap.size) (Ext w0) (by kernel_rfl) (by kernel_rfl) (by kernel_rfl) ⟨rfl, rfl, rfl, Nat.le_refl _, fun _ _ => rfl⟩ (fun _ _ h e => h.trans e) (sizeSpotS_ext Wd b off n c A' n' c' T m cT i s X Y p0 w0.heap.size) touchD5 (by kernel_rfl) ?_ ?_
  · intro k o hk ho a W hB hsz hold haft
    match k, hk with
    | 0, _ => exact touch5_op0 (hold 4 (by kernel_rfl)) HX.out ho hB haft
    | 1, _ => exact touch5_op1 (hold 1 (by kernel_rfl)) ho hB haft
    | 2, _ => exact touch5_op2 (hold 2 (by kernel_rfl)) ho hB haft
    | 3, _ => exact touch5_op3 HX.out h100 hm hmn hmm (HT.out.ext HV5.out) hbd hs ho hB haft
    | 4, _ => exact touch5_op4 (hold 4 (by kernel_rfl)) ho hB haft
    | 5, _ => exact touch5_op5 (hold 4 (by kernel_rfl)) HX.out ho hB haft
    | 6, _ => exact touch5_op6 (hold 2 (by kernel_rfl)) ho hB haft
    | 7, _ => exact touch5_op7 hin ho hB haft
    | 8, _ => exact touch5_op8 HX.out hiN hiXY ho hB haft
    | 9, _ => exact touch5_op9 (Nat.le_refl _) ho hB haft
    | 10, _ => exact touch5_op10  ho hB haft
    | k + 11, h => exact absurd h (by omega)
  · intro a W hB hsz hdf hold hS
    obtain ⟨g1, e9, hN, hr⟩ : ∃ g, a.eval (.tmp 10) = .pointer (some ⟨g, 0, none⟩) ∧ w0.heap.size ≤ g ∧ W.heap[g]? = some (.cells #[.int .i64 0, .int .i64 0] 74 (0, 0)) := hS 9 (by omega)
    have hall : ∀ x, x ∈ ([(24, .agg #[.int .i64 Wd, .slice (some ⟨b, off, none⟩) n c, .slice A' n' c']), (25, .slice T m cT), (26, .int .i64 (i : Int)), (27, .int .i64 s), (28, .pointer (some ⟨p0, 1, none⟩)), (29, .slice (some ⟨b, off, none⟩) n c), (30, .int .i64 (i : Int)), (31, .pointer (some ⟨b, off + i * 2, none⟩)), (32, .agg #[.int .i64 X, .int .i64 Y]), (10, .pointer (some ⟨g1, 0, none⟩)), (9, .int .i64 s)] : List (Tmp × Value)) → x.1 < 116 ∧ a.eval (.tmp x.1) = x.2 := by
      intro x hx
      simp only [List.mem_cons, List.not_mem_nil, or_false] at hx
      rcases hx with rfl | rfl | rfl | rfl | rfl | rfl | rfl | rfl | rfl | rfl | rfl
      · exact ⟨(show (24 : Nat) < 116 by omega), hS 0 (by omega)⟩
      · exact ⟨(show (25 : Nat) < 116 by omega), hS 1 (by omega)⟩
      · exact ⟨(show (26 : Nat) < 116 by omega), hS 2 (by omega)⟩
      · exact ⟨(show (27 : Nat) < 116 by omega), hS 3 (by omega)⟩
      · exact ⟨(show (28 : Nat) < 116 by omega), hS 4 (by omega)⟩
      · exact ⟨(show (29 : Nat) < 116 by omega), hS 5 (by omega)⟩
      · exact ⟨(show (30 : Nat) < 116 by omega), hS 6 (by omega)⟩
      · exact ⟨(show (31 : Nat) < 116 by omega), hS 7 (by omega)⟩
      · exact ⟨(show (32 : Nat) < 116 by omega), hS 8 (by omega)⟩
      · exact ⟨(show (10 : Nat) < 116 by omega), e9⟩
      · exact ⟨(show (9 : Nat) < 116 by omega), hS 10 (by omega)⟩
    have ha := act_puts hsz hdf hall (fun t ht => hold t (all_ne_of (l := [(24, .agg #[.int .i64 Wd, .slice (some ⟨b, off, none⟩) n c, .slice A' n' c']), (25, .slice T m cT), (26, .int .i64 (i : Int)), (27, .int .i64 s), (28, .pointer (some ⟨p0, 1, none⟩)), (29, .slice (some ⟨b, off, none⟩) n c), (30, .int .i64 (i : Int)), (31, .pointer (some ⟨b, off + i * 2, none⟩)), (32, .agg #[.int .i64 X, .int .i64 Y]), (10, .pointer (some ⟨g1, 0, none⟩)), (9, .int .i64 s)]) (by kernel_rfl) ht))
    have e8 : a.eval (.tmp 32) = .agg #[.int .i64 X, .int .i64 Y] := hS 8 (by omega)
    clear hall hS hold hsz hdf
    obtain ⟨o11, hdr, h11⟩ := drop_one (ops := touchReg5) (k := 11) (by kernel_rfl)
    rw [hdr]
    refine wpList_store_row (op_at h11 (·.guard) (x := none) (by kernel_rfl)) 74 (.tmp 10) (.tmp 32) (op_at h11 (·.op) (by kernel_rfl)) g1 #[.int .i64 X, .int .i64 Y] e9 e8 74 _ hr (by kernel_rfl) rfl (by simp [Value.oneCell']) ?_
    rw [show o11.dst = none from op_at h11 (·.dst) (by kernel_rfl)]
    clear hdr h11
    obtain ⟨W5, hW, hg5, hE5⟩ : ∃ W', W.setRow g1 #[.int .i64 X, .int .i64 Y] = W' ∧ W'.heap[g1]? = some (.cells #[.int .i64 X, .int .i64 Y] 74 (0, 0)) ∧ Ext w0 W' := ⟨_, rfl, row_setRow _ _ _ _ _ _ hr, below_setRow hB hN _⟩
    rw [hW]
    clear hW hr hN hB e8 e9
    show Exit.then _ _ _ a _
    rw [ha]
    clear ha
    simp only [Exit.then, puts, List.foldl_cons, List.foldl_nil, Act.put, List.setIfInBounds_toArray, List.set_cons_succ, List.set_cons_zero]
    go_at_K
    have HX12 := Lib.hid (HX.out.ext hE5)
    have HV12 := Lib.hid (HV5.out.trans hE5)
    have HG5 := Lib.hid hg5
    clear HX HV5 hE5 hg5 hs hiXY
    by_cases hz : s = 0
    · subst hz
      go_wp2
      go_ret
      exact ⟨ret_bool (by simp [reachB]), HV12.out⟩
    · have hz2 : (s == 0) = false := by simp [hz]
      go_upto_region 12 with fail
      refine wp_region_specs_free (ops := touchReg12) 11 (sizeSpotS Wd b off n c A' n' c' T m cT j s2 X2 Y2 p0 W5.heap.size) (Ext W5) (by kernel_rfl) (by kernel_rfl) (by kernel_rfl) ⟨rfl, rfl, rfl, Nat.le_refl _, fun _ _ => rfl⟩ (fun _ _ h e => h.trans e) (sizeSpotS_ext Wd b off n c A' n' c' T m cT j s2 X2 Y2 p0 W5.heap.size) touchD12 (by kernel_rfl) ?_ ?_
      · intro k o hk ho a W hB hsz hold haft
        match k, hk with
        | 0, _ => exact touch12_op0 (hold 4 (by kernel_rfl)) HX12.out ho hB haft
        | 1, _ => exact touch12_op1 (hold 1 (by kernel_rfl)) ho hB haft
        | 2, _ => exact touch12_op2 (hold 3 (by kernel_rfl)) ho hB haft
        | 3, _ => exact touch12_op3 HX12.out h100 hm hmn hmm (HT.out.ext HV12.out) hbd hs2 ho hB haft
        | 4, _ => exact touch12_op4 (hold 4 (by kernel_rfl)) ho hB haft
        | 5, _ => exact touch12_op5 (hold 4 (by kernel_rfl)) HX12.out ho hB haft
        | 6, _ => exact touch12_op6 (hold 3 (by kernel_rfl)) ho hB haft
        | 7, _ => exact touch12_op7 hjn ho hB haft
        | 8, _ => exact touch12_op8 HX12.out hjN hjXY ho hB haft
        | 9, _ => exact touch12_op9 (Nat.le_refl _) ho hB haft
        | 10, _ => exact touch12_op10  ho hB haft
        | k + 11, h => exact absurd h (by omega)
      · intro a W hB hsz hdf hold hS
        obtain ⟨g2, e9, hN, hr⟩ : ∃ g, a.eval (.tmp 12) = .pointer (some ⟨g, 0, none⟩) ∧ W5.heap.size ≤ g ∧ W.heap[g]? = some (.cells #[.int .i64 0, .int .i64 0] 74 (0, 0)) := hS 9 (by omega)
        have hall : ∀ x, x ∈ ([(59, .agg #[.int .i64 Wd, .slice (some ⟨b, off, none⟩) n c, .slice A' n' c']), (60, .slice T m cT), (61, .int .i64 (j : Int)), (62, .int .i64 s2), (63, .pointer (some ⟨p0, 1, none⟩)), (64, .slice (some ⟨b, off, none⟩) n c), (65, .int .i64 (j : Int)), (66, .pointer (some ⟨b, off + j * 2, none⟩)), (67, .agg #[.int .i64 X2, .int .i64 Y2]), (12, .pointer (some ⟨g2, 0, none⟩)), (11, .int .i64 s2)] : List (Tmp × Value)) → x.1 < 116 ∧ a.eval (.tmp x.1) = x.2 := by
          intro x hx
          simp only [List.mem_cons, List.not_mem_nil, or_false] at hx
          rcases hx with rfl | rfl | rfl | rfl | rfl | rfl | rfl | rfl | rfl | rfl | rfl
          · exact ⟨(show (59 : Nat) < 116 by omega), hS 0 (by omega)⟩
          · exact ⟨(show (60 : Nat) < 116 by omega), hS 1 (by omega)⟩
          · exact ⟨(show (61 : Nat) < 116 by omega), hS 2 (by omega)⟩
          · exact ⟨(show (62 : Nat) < 116 by omega), hS 3 (by omega)⟩
          · exact ⟨(show (63 : Nat) < 116 by omega), hS 4 (by omega)⟩
          · exact ⟨(show (64 : Nat) < 116 by omega), hS 5 (by omega)⟩
          · exact ⟨(show (65 : Nat) < 116 by omega), hS 6 (by omega)⟩
          · exact ⟨(show (66 : Nat) < 116 by omega), hS 7 (by omega)⟩
          · exact ⟨(show (67 : Nat) < 116 by omega), hS 8 (by omega)⟩
          · exact ⟨(show (12 : Nat) < 116 by omega), e9⟩
          · exact ⟨(show (11 : Nat) < 116 by omega), hS 10 (by omega)⟩
        have ha := act_puts hsz hdf hall (fun t ht => hold t (all_ne_of (l := [(59, .agg #[.int .i64 Wd, .slice (some ⟨b, off, none⟩) n c, .slice A' n' c']), (60, .slice T m cT), (61, .int .i64 (j : Int)), (62, .int .i64 s2), (63, .pointer (some ⟨p0, 1, none⟩)), (64, .slice (some ⟨b, off, none⟩) n c), (65, .int .i64 (j : Int)), (66, .pointer (some ⟨b, off + j * 2, none⟩)), (67, .agg #[.int .i64 X2, .int .i64 Y2]), (12, .pointer (some ⟨g2, 0, none⟩)), (11, .int .i64 s2)]) (by kernel_rfl) ht))
        have e8 : a.eval (.tmp 67) = .agg #[.int .i64 X2, .int .i64 Y2] := hS 8 (by omega)
        clear hall hS hold hsz hdf
        obtain ⟨o11, hdr, h11⟩ := drop_one (ops := touchReg12) (k := 11) (by kernel_rfl)
        rw [hdr]
        refine wpList_store_row (op_at h11 (·.guard) (x := none) (by kernel_rfl)) 74 (.tmp 12) (.tmp 67) (op_at h11 (·.op) (by kernel_rfl)) g2 #[.int .i64 X2, .int .i64 Y2] e9 e8 74 _ hr (by kernel_rfl) rfl (by simp [Value.oneCell']) ?_
        rw [show o11.dst = none from op_at h11 (·.dst) (by kernel_rfl)]
        clear hdr h11
        obtain ⟨W12, hW, hg12, hE12⟩ : ∃ W', W.setRow g2 #[.int .i64 X2, .int .i64 Y2] = W' ∧ W'.heap[g2]? = some (.cells #[.int .i64 X2, .int .i64 Y2] 74 (0, 0)) ∧ Ext W5 W' := ⟨_, rfl, row_setRow _ _ _ _ _ _ hr, below_setRow hB hN _⟩
        rw [hW]
        clear hW hr hN hB e8 e9
        show Exit.then _ _ _ a _
        rw [ha]
        clear ha
        simp only [Exit.then, puts, List.foldl_cons, List.foldl_nil, Act.put, List.setIfInBounds_toArray, List.set_cons_succ, List.set_cons_zero]
        go_at_K
        have hg5 := row_ext HG5.out hE12
        have f0 := cell_of_row _ _ 0 _ _ _ hg5
        have f1 := cell_of_row _ _ 1 _ _ _ hg5
        have f2 := cell_of_row _ _ 0 _ _ _ hg12
        have f3 := cell_of_row _ _ 1 _ _ _ hg12
        simp at f0 f1 f2 f3
        have HE := Lib.hid (HV12.out.trans hE12)
        clear HX12 HV12 HT HG5 hE12 hg12 hg5 hbd hs2 hjXY hi0 hj0 hj1 hj2
        by_cases hy : s2 = 0
        · subst hy
          go_wp2
          go_ret
          exact ⟨ret_bool (by simp [reachB]), HE.out⟩
        · have hy2 : (s2 == 0) = false := by simp [hy]
          obtain ⟨D, hD⟩ : ∃ D, (X - X2) * (X - X2) + (Y - Y2) * (Y - Y2) = D := ⟨_, rfl⟩
          have HD := Lib.hid hD
          have hD0 : 0 ≤ D ∧ D ≤ 2000000 := by omega
          obtain ⟨hD0, hD1⟩ := hD0
          by_cases hle : D ≤ s + s2
          · have hr : reachB s s2 D = true := by simp [reachB, hz, hy]; omega
            have HR := Lib.hid hr
            clear hr
            go_wp2
            go_ret
            exact ⟨ret_bool (by first | rw [HD.out, HR.out] | rw [HR.out]), HE.out⟩
          · have bq := mul_bd (a := D - s - s2) (b := D - s - s2) (M := 2000000) (N := 2000000) (by omega) (by omega) (by omega) (by omega)
            have bp := mul_bd (a := 4 * s) (b := s2) (M := 4000000) (N := 1000000) (by omega) (by omega) (by omega) (by omega)
            have hr : reachB s s2 D = decide ((D - s - s2) * (D - s - s2) ≤ 4 * s * s2) := by
              have h3 : ¬ (D - s - s2 ≤ 0) := by omega
              simp [reachB, hz, hy, h3]
            have HR := Lib.hid hr
            clear hr
            go_wp2
            go_ret
            exact ⟨ret_bool (by first | rw [HD.out, HR.out] | rw [HR.out]), HE.out⟩
end
end Go.Proofs.Ytgdpgdnhhjclcaa

/- The reference's kind of two places. -/
namespace Go.Proofs.Ytgdpgdnhhjclcaa
open Go.RowKit Go.Shelf

section
variable {w : World} {Wd : Int} {A : Option Addr} {n c : Nat} {A' : Option Addr} {n' c' : Nat} {ss : List (Int × Int)} {ds : List (Int × Int × Int)}

/-- Touches, at any two different places. -/
theorem touches_ref (T : Option Addr) (m cT : Nat) (ts : List Int) (h0 : Few Wd ss ds) (hb : IsBath w w.heap.size A n c A' n' c' ss ds) (hm : m = ts.length) (hmn : n' ≤ m) (hmm : m ≤ 9223372036854775807) (ht : Held w w.heap.size 1 encI T ts) (hbd : ∀ k, 0 ≤ ts.getD k 0 ∧ ts.getD k 0 ≤ 10000)
    (one two : Int) (h1 : -2 ≤ one) (h1' : one < n) (h2 : -2 ≤ two) (h2' : two < n) (hne : one ≠ two) :
    Calls Try.prog 46 #[.agg #[.int .i64 Wd, .slice A n c, .slice A' n' c'], .slice T m cT, .int .i64 one, .int .i64 two] w fun e w' => e = .returned (.bool (meetB Wd ss (fun j => sumAt ds ts j n') one two)) ∧ Ext w w' := by
  by_cases ha : one < 0
  · by_cases hb2 : two < 0
    · have hr : meetB Wd ss (fun j => sumAt ds ts j n') one two = false := by
        rcases Int.lt_or_gt_of_ne hne with h | h
        · exact meetB_walls _ _ _ _ _ h hb2
        · rw [meetB_comm]; exact meetB_walls _ _ _ _ _ h ha
      rw [hr]
      exact touches_none T m cT one two ha hb2
    · obtain ⟨i, rfl⟩ := Int.eq_ofNat_of_zero_le (show 0 ≤ two by omega)
      rcases (show one = -1 ∨ one = -2 by omega) with rfl | rfl
      · exact touches_sw_l T m cT ts h0 hb hm hmn hmm ht hbd i (by omega)
      · exact touches_sw_r T m cT ts h0 hb hm hmn hmm ht hbd i (by omega)
  · obtain ⟨i, rfl⟩ := Int.eq_ofNat_of_zero_le (show 0 ≤ one by omega)
    by_cases hb2 : two < 0
    · rw [meetB_comm]
      rcases (show two = -1 ∨ two = -2 by omega) with rfl | rfl
      · exact touches_ns_l T m cT ts h0 hb hm hmn hmm ht hbd i (by omega)
      · exact touches_ns_r T m cT ts h0 hb hm hmn hmm ht hbd i (by omega)
    · obtain ⟨j, rfl⟩ := Int.eq_ofNat_of_zero_le (show 0 ≤ two by omega)
      have hc := touches_spots T m cT ts h0 hb hm hmn hmm ht hbd i j (by omega) (by omega)
      rcases Int.lt_or_gt_of_ne hne with h | h
      · rw [meetB_spots _ _ _ _ _ (by omega)]
        exact hc
      · rw [meetB_comm, meetB_spots _ _ _ _ _ (by omega), reachB_comm]
        rw [sq_comm (ss.getD j (0, 0)).1 (ss.getD i (0, 0)).1, sq_comm (ss.getD j (0, 0)).2 (ss.getD i (0, 0)).2]
        exact hc

theorem meet_ends (high : Bool) (ds : List (Int × Int × Int)) (one two : Int) : meetB Wd ss (fun j => sumAt ds (ds.map (endOf high)) j ds.length) one two = meetB Wd ss (fun j => if high then (sizes ds j).2 else (sizes ds j).1) one two := by
  congr 1
  funext j
  exact sumAt_ends high ds j

/-- What each operation of kind's two tests yields. -/
def kindS (Wd : Int) (A : Option Addr) (n c : Nat) (A' : Option Addr) (n' c' : Nat) (xs : List Int) (one two : Int) (r : Bool) (k : Nat) (v : Value) (W : World) : Prop :=
  match k with
  | 2 => IntsAt xs v W
  | 3 => v = .int .i64 one
  | 4 => v = .int .i64 two
  | 5 => v = .bool r
  | _ => v = .agg #[.int .i64 Wd, .slice A n c, .slice A' n' c']
theorem kindS_ext (Wd : Int) (A : Option Addr) (n c : Nat) (A' : Option Addr) (n' c' : Nat) (xs : List Int) (one two : Int) (r : Bool) (k : Nat) (v : Value) (W W' : World) (h : kindS Wd A n c A' n' c' xs one two r k v W) (e : Below W.heap.size W W') : kindS Wd A n c A' n' c' xs one two r k v W' := by
  unfold kindS at h ⊢
  split at h <;> first | exact h | exact IntsAt.ext h e

noncomputable def kindReg1 : Array Oper := (Try.f71.body.bind (regionOf · 1)).getD #[]
noncomputable def kindReg3 : Array Oper := (Try.f71.body.bind (regionOf · 3)).getD #[]
end
section
variable {Wd : Int} {A : Option Addr} {n c : Nat} {A' : Option Addr} {n' c' : Nat} {ss : List (Int × Int)} {ds : List (Int × Int × Int)} {one two : Int} {r : Bool} {p : Nat} {Q : Exit → Act → World → Prop} {a : Act} {V W : World} {o : Oper}

theorem kind1_op0 (o3 : a.eval (.tmp 3) = .pointer (some ⟨p, 0, none⟩)) (hx : BathAt V p Wd A n c A' n' c' ss ds) (ho : kindReg1[0]? = some o) (hB : Ext V W) (haft : ∀ j, (o.after.any fun e => decide (e.on = j) && Region.binds .any e) = true → kindS Wd A n c A' n' c' (ds.map (endOf false)) one two r j (a.eval (.tmp (7 + j))) W) :
    (∀ j b, o.guard = some (j, b) → a.eval (.tmp (7 + j)) = .bool b) ∧ o.wp Try.prog a W (fun a'' W' => ∃ v, a'' = a.put o.dst v ∧ kindS Wd A n c A' n' c' (ds.map (endOf false)) one two r 0 v W' ∧ Below W.heap.size W W') Q := by
  have hop := op_at ho (·.op) (x := .load 25 (.tmp 3)) (by kernel_rfl)
  have hgd := op_at ho (·.guard) (x := none) (by kernel_rfl)
  refine ⟨fun j b h => (by rw [hgd] at h; cases h), ?_⟩
  obtain ⟨q0, q1, q2⟩ := (hx.ext hB).cells
  exact specs_value (R := kindS Wd A n c A' n' c' (ds.map (endOf false)) one two r 0) (v := .agg #[.int .i64 Wd, .slice A n c, .slice A' n' c']) (by simp [execOp, hop, go_sem, ev o3, q0, q1, q2]) rfl (Ext.refl W)
theorem kind1_op1 (o3 : a.eval (.tmp 3) = .pointer (some ⟨p, 0, none⟩)) (hx : BathAt V p Wd A n c A' n' c' ss ds) (ho : kindReg1[1]? = some o) (hB : Ext V W) (haft : ∀ j, (o.after.any fun e => decide (e.on = j) && Region.binds .any e) = true → kindS Wd A n c A' n' c' (ds.map (endOf false)) one two r j (a.eval (.tmp (7 + j))) W) :
    (∀ j b, o.guard = some (j, b) → a.eval (.tmp (7 + j)) = .bool b) ∧ o.wp Try.prog a W (fun a'' W' => ∃ v, a'' = a.put o.dst v ∧ kindS Wd A n c A' n' c' (ds.map (endOf false)) one two r 1 v W' ∧ Below W.heap.size W W') Q := by
  have hop := op_at ho (·.op) (x := .load 25 (.tmp 3)) (by kernel_rfl)
  have hgd := op_at ho (·.guard) (x := none) (by kernel_rfl)
  refine ⟨fun j b h => (by rw [hgd] at h; cases h), ?_⟩
  obtain ⟨q0, q1, q2⟩ := (hx.ext hB).cells
  exact specs_value (R := kindS Wd A n c A' n' c' (ds.map (endOf false)) one two r 1) (v := .agg #[.int .i64 Wd, .slice A n c, .slice A' n' c']) (by simp [execOp, hop, go_sem, ev o3, q0, q1, q2]) rfl (Ext.refl W)
theorem kind1_op2 (hx : BathAt V p Wd A n c A' n' c' ss ds) (h0 : Few Wd ss ds) (ho : kindReg1[2]? = some o) (hB : Ext V W) (haft : ∀ j, (o.after.any fun e => decide (e.on = j) && Region.binds .any e) = true → kindS Wd A n c A' n' c' (ds.map (endOf false)) one two r j (a.eval (.tmp (7 + j))) W) :
    (∀ j b, o.guard = some (j, b) → a.eval (.tmp (7 + j)) = .bool b) ∧ o.wp Try.prog a W (fun a'' W' => ∃ v, a'' = a.put o.dst v ∧ kindS Wd A n c A' n' c' (ds.map (endOf false)) one two r 2 v W' ∧ Below W.heap.size W W') Q := by
  have hop := op_at ho (·.op) (x := .call { callee := .value (.func 61), args := #[.tmp 8, .const (.bool false)], argTypes := #[25, 4] }) (by kernel_rfl)
  have hgd := op_at ho (·.guard) (x := none) (by kernel_rfl)
  refine ⟨fun j b h => (by rw [hgd] at h; cases h), ?_⟩
  have e1 : a.eval (.tmp 8) = .agg #[.int .i64 Wd, .slice A n c, .slice A' n' c'] := haft 1 (op_at ho (fun o => o.after.any fun e => decide (e.on = 1) && Region.binds .any e) (x := true) (by kernel_rfl))
  have hX := hx.ext hB
  have hc := ends_ref (Wd := Wd) false hX.bath (by have := h0.many.2; have := hX.bath.nds; omega)
  exact specs_call (R := kindS Wd A n c A' n' c' (ds.map (endOf false)) one two r 2) (f := 61) (args := #[.agg #[.int .i64 Wd, .slice A n c, .slice A' n' c'], .bool false]) (by simp [execOp, hop, go_sem, ev e1]) (hc.mono fun e w' h => by
    obtain ⟨v, rfl, hM, hE⟩ := h
    exact ⟨v, rfl, made64_held hM, hE⟩)
theorem kind1_op3 (o1 : a.eval (.tmp 1) = .int .i64 one) (ho : kindReg1[3]? = some o) (hB : Ext V W) (haft : ∀ j, (o.after.any fun e => decide (e.on = j) && Region.binds .any e) = true → kindS Wd A n c A' n' c' (ds.map (endOf false)) one two r j (a.eval (.tmp (7 + j))) W) :
    (∀ j b, o.guard = some (j, b) → a.eval (.tmp (7 + j)) = .bool b) ∧ o.wp Try.prog a W (fun a'' W' => ∃ v, a'' = a.put o.dst v ∧ kindS Wd A n c A' n' c' (ds.map (endOf false)) one two r 3 v W' ∧ Below W.heap.size W W') Q := by
  have hop := op_at ho (·.op) (x := .move (.tmp 1)) (by kernel_rfl)
  have hgd := op_at ho (·.guard) (x := none) (by kernel_rfl)
  refine ⟨fun j b h => (by rw [hgd] at h; cases h), ?_⟩
  exact specs_value (R := kindS Wd A n c A' n' c' (ds.map (endOf false)) one two r 3) (v := .int .i64 one) (by simp [execOp, hop, go_sem, ev o1]) rfl (Ext.refl W)
theorem kind1_op4 (o2 : a.eval (.tmp 2) = .int .i64 two) (ho : kindReg1[4]? = some o) (hB : Ext V W) (haft : ∀ j, (o.after.any fun e => decide (e.on = j) && Region.binds .any e) = true → kindS Wd A n c A' n' c' (ds.map (endOf false)) one two r j (a.eval (.tmp (7 + j))) W) :
    (∀ j b, o.guard = some (j, b) → a.eval (.tmp (7 + j)) = .bool b) ∧ o.wp Try.prog a W (fun a'' W' => ∃ v, a'' = a.put o.dst v ∧ kindS Wd A n c A' n' c' (ds.map (endOf false)) one two r 4 v W' ∧ Below W.heap.size W W') Q := by
  have hop := op_at ho (·.op) (x := .move (.tmp 2)) (by kernel_rfl)
  have hgd := op_at ho (·.guard) (x := none) (by kernel_rfl)
  refine ⟨fun j b h => (by rw [hgd] at h; cases h), ?_⟩
  exact specs_value (R := kindS Wd A n c A' n' c' (ds.map (endOf false)) one two r 4) (v := .int .i64 two) (by simp [execOp, hop, go_sem, ev o2]) rfl (Ext.refl W)
theorem kind1_op5 (hx : BathAt V p Wd A n c A' n' c' ss ds) (h0 : Few Wd ss ds) (h1 : -2 ≤ one) (h1' : one < n) (h2 : -2 ≤ two) (h2' : two < n) (hne : one ≠ two) (hr : meetB Wd ss (fun j => sumAt ds (ds.map (endOf false)) j n') one two = r) (ho : kindReg1[5]? = some o) (hB : Ext V W) (haft : ∀ j, (o.after.any fun e => decide (e.on = j) && Region.binds .any e) = true → kindS Wd A n c A' n' c' (ds.map (endOf false)) one two r j (a.eval (.tmp (7 + j))) W) :
    (∀ j b, o.guard = some (j, b) → a.eval (.tmp (7 + j)) = .bool b) ∧ o.wp Try.prog a W (fun a'' W' => ∃ v, a'' = a.put o.dst v ∧ kindS Wd A n c A' n' c' (ds.map (endOf false)) one two r 5 v W' ∧ Below W.heap.size W W') Q := by
  have hop := op_at ho (·.op) (x := .call { callee := .value (.func 46), args := #[.tmp 7, .tmp 9, .tmp 10, .tmp 11], argTypes := #[25, 55, 3, 3] }) (by kernel_rfl)
  have hgd := op_at ho (·.guard) (x := none) (by kernel_rfl)
  refine ⟨fun j b h => (by rw [hgd] at h; cases h), ?_⟩
  have e0 : a.eval (.tmp 7) = .agg #[.int .i64 Wd, .slice A n c, .slice A' n' c'] := haft 0 (op_at ho (fun o => o.after.any fun e => decide (e.on = 0) && Region.binds .any e) (x := true) (by kernel_rfl))
  obtain ⟨T, cT, e2, hT⟩ := haft 2 (op_at ho (fun o => o.after.any fun e => decide (e.on = 2) && Region.binds .any e) (x := true) (by kernel_rfl))
  rw [show 7 + 2 = 9 from rfl] at e2
  have e3 : a.eval (.tmp 10) = .int .i64 one := haft 3 (op_at ho (fun o => o.after.any fun e => decide (e.on = 3) && Region.binds .any e) (x := true) (by kernel_rfl))
  have e4 : a.eval (.tmp 11) = .int .i64 two := haft 4 (op_at ho (fun o => o.after.any fun e => decide (e.on = 4) && Region.binds .any e) (x := true) (by kernel_rfl))
  have hX := hx.ext hB
  have hc := touches_ref (Wd := Wd) T _ cT (ds.map (endOf false)) h0 hX.bath rfl (by rw [List.length_map, hX.bath.nds]; exact Nat.le_refl _) (by rw [List.length_map]; have := h0.many.2; omega) hT (ends_bd h0 false) one two h1 h1' h2 h2' hne
  rw [hr] at hc
  exact specs_call (R := kindS Wd A n c A' n' c' (ds.map (endOf false)) one two r 5) (f := 46) (args := #[.agg #[.int .i64 Wd, .slice A n c, .slice A' n' c'], .slice T (ds.map (endOf false)).length cT, .int .i64 one, .int .i64 two]) (by simp [execOp, hop, go_sem, ev e0, ev e2, ev e3, ev e4]) (hc.mono fun e w' h => ⟨_, h.1, rfl, h.2⟩)
theorem kind3_op0 (o3 : a.eval (.tmp 3) = .pointer (some ⟨p, 0, none⟩)) (hx : BathAt V p Wd A n c A' n' c' ss ds) (ho : kindReg3[0]? = some o) (hB : Ext V W) (haft : ∀ j, (o.after.any fun e => decide (e.on = j) && Region.binds .any e) = true → kindS Wd A n c A' n' c' (ds.map (endOf true)) one two r j (a.eval (.tmp (13 + j))) W) :
    (∀ j b, o.guard = some (j, b) → a.eval (.tmp (13 + j)) = .bool b) ∧ o.wp Try.prog a W (fun a'' W' => ∃ v, a'' = a.put o.dst v ∧ kindS Wd A n c A' n' c' (ds.map (endOf true)) one two r 0 v W' ∧ Below W.heap.size W W') Q := by
  have hop := op_at ho (·.op) (x := .load 25 (.tmp 3)) (by kernel_rfl)
  have hgd := op_at ho (·.guard) (x := none) (by kernel_rfl)
  refine ⟨fun j b h => (by rw [hgd] at h; cases h), ?_⟩
  obtain ⟨q0, q1, q2⟩ := (hx.ext hB).cells
  exact specs_value (R := kindS Wd A n c A' n' c' (ds.map (endOf true)) one two r 0) (v := .agg #[.int .i64 Wd, .slice A n c, .slice A' n' c']) (by simp [execOp, hop, go_sem, ev o3, q0, q1, q2]) rfl (Ext.refl W)
theorem kind3_op1 (o3 : a.eval (.tmp 3) = .pointer (some ⟨p, 0, none⟩)) (hx : BathAt V p Wd A n c A' n' c' ss ds) (ho : kindReg3[1]? = some o) (hB : Ext V W) (haft : ∀ j, (o.after.any fun e => decide (e.on = j) && Region.binds .any e) = true → kindS Wd A n c A' n' c' (ds.map (endOf true)) one two r j (a.eval (.tmp (13 + j))) W) :
    (∀ j b, o.guard = some (j, b) → a.eval (.tmp (13 + j)) = .bool b) ∧ o.wp Try.prog a W (fun a'' W' => ∃ v, a'' = a.put o.dst v ∧ kindS Wd A n c A' n' c' (ds.map (endOf true)) one two r 1 v W' ∧ Below W.heap.size W W') Q := by
  have hop := op_at ho (·.op) (x := .load 25 (.tmp 3)) (by kernel_rfl)
  have hgd := op_at ho (·.guard) (x := none) (by kernel_rfl)
  refine ⟨fun j b h => (by rw [hgd] at h; cases h), ?_⟩
  obtain ⟨q0, q1, q2⟩ := (hx.ext hB).cells
  exact specs_value (R := kindS Wd A n c A' n' c' (ds.map (endOf true)) one two r 1) (v := .agg #[.int .i64 Wd, .slice A n c, .slice A' n' c']) (by simp [execOp, hop, go_sem, ev o3, q0, q1, q2]) rfl (Ext.refl W)
theorem kind3_op2 (hx : BathAt V p Wd A n c A' n' c' ss ds) (h0 : Few Wd ss ds) (ho : kindReg3[2]? = some o) (hB : Ext V W) (haft : ∀ j, (o.after.any fun e => decide (e.on = j) && Region.binds .any e) = true → kindS Wd A n c A' n' c' (ds.map (endOf true)) one two r j (a.eval (.tmp (13 + j))) W) :
    (∀ j b, o.guard = some (j, b) → a.eval (.tmp (13 + j)) = .bool b) ∧ o.wp Try.prog a W (fun a'' W' => ∃ v, a'' = a.put o.dst v ∧ kindS Wd A n c A' n' c' (ds.map (endOf true)) one two r 2 v W' ∧ Below W.heap.size W W') Q := by
  have hop := op_at ho (·.op) (x := .call { callee := .value (.func 61), args := #[.tmp 14, .const (.bool true)], argTypes := #[25, 4] }) (by kernel_rfl)
  have hgd := op_at ho (·.guard) (x := none) (by kernel_rfl)
  refine ⟨fun j b h => (by rw [hgd] at h; cases h), ?_⟩
  have e1 : a.eval (.tmp 14) = .agg #[.int .i64 Wd, .slice A n c, .slice A' n' c'] := haft 1 (op_at ho (fun o => o.after.any fun e => decide (e.on = 1) && Region.binds .any e) (x := true) (by kernel_rfl))
  have hX := hx.ext hB
  have hc := ends_ref (Wd := Wd) true hX.bath (by have := h0.many.2; have := hX.bath.nds; omega)
  exact specs_call (R := kindS Wd A n c A' n' c' (ds.map (endOf true)) one two r 2) (f := 61) (args := #[.agg #[.int .i64 Wd, .slice A n c, .slice A' n' c'], .bool true]) (by simp [execOp, hop, go_sem, ev e1]) (hc.mono fun e w' h => by
    obtain ⟨v, rfl, hM, hE⟩ := h
    exact ⟨v, rfl, made64_held hM, hE⟩)
theorem kind3_op3 (o1 : a.eval (.tmp 1) = .int .i64 one) (ho : kindReg3[3]? = some o) (hB : Ext V W) (haft : ∀ j, (o.after.any fun e => decide (e.on = j) && Region.binds .any e) = true → kindS Wd A n c A' n' c' (ds.map (endOf true)) one two r j (a.eval (.tmp (13 + j))) W) :
    (∀ j b, o.guard = some (j, b) → a.eval (.tmp (13 + j)) = .bool b) ∧ o.wp Try.prog a W (fun a'' W' => ∃ v, a'' = a.put o.dst v ∧ kindS Wd A n c A' n' c' (ds.map (endOf true)) one two r 3 v W' ∧ Below W.heap.size W W') Q := by
  have hop := op_at ho (·.op) (x := .move (.tmp 1)) (by kernel_rfl)
  have hgd := op_at ho (·.guard) (x := none) (by kernel_rfl)
  refine ⟨fun j b h => (by rw [hgd] at h; cases h), ?_⟩
  exact specs_value (R := kindS Wd A n c A' n' c' (ds.map (endOf true)) one two r 3) (v := .int .i64 one) (by simp [execOp, hop, go_sem, ev o1]) rfl (Ext.refl W)
theorem kind3_op4 (o2 : a.eval (.tmp 2) = .int .i64 two) (ho : kindReg3[4]? = some o) (hB : Ext V W) (haft : ∀ j, (o.after.any fun e => decide (e.on = j) && Region.binds .any e) = true → kindS Wd A n c A' n' c' (ds.map (endOf true)) one two r j (a.eval (.tmp (13 + j))) W) :
    (∀ j b, o.guard = some (j, b) → a.eval (.tmp (13 + j)) = .bool b) ∧ o.wp Try.prog a W (fun a'' W' => ∃ v, a'' = a.put o.dst v ∧ kindS Wd A n c A' n' c' (ds.map (endOf true)) one two r 4 v W' ∧ Below W.heap.size W W') Q := by
  have hop := op_at ho (·.op) (x := .move (.tmp 2)) (by kernel_rfl)
  have hgd := op_at ho (·.guard) (x := none) (by kernel_rfl)
  refine ⟨fun j b h => (by rw [hgd] at h; cases h), ?_⟩
  exact specs_value (R := kindS Wd A n c A' n' c' (ds.map (endOf true)) one two r 4) (v := .int .i64 two) (by simp [execOp, hop, go_sem, ev o2]) rfl (Ext.refl W)
theorem kind3_op5 (hx : BathAt V p Wd A n c A' n' c' ss ds) (h0 : Few Wd ss ds) (h1 : -2 ≤ one) (h1' : one < n) (h2 : -2 ≤ two) (h2' : two < n) (hne : one ≠ two) (hr : meetB Wd ss (fun j => sumAt ds (ds.map (endOf true)) j n') one two = r) (ho : kindReg3[5]? = some o) (hB : Ext V W) (haft : ∀ j, (o.after.any fun e => decide (e.on = j) && Region.binds .any e) = true → kindS Wd A n c A' n' c' (ds.map (endOf true)) one two r j (a.eval (.tmp (13 + j))) W) :
    (∀ j b, o.guard = some (j, b) → a.eval (.tmp (13 + j)) = .bool b) ∧ o.wp Try.prog a W (fun a'' W' => ∃ v, a'' = a.put o.dst v ∧ kindS Wd A n c A' n' c' (ds.map (endOf true)) one two r 5 v W' ∧ Below W.heap.size W W') Q := by
  have hop := op_at ho (·.op) (x := .call { callee := .value (.func 46), args := #[.tmp 13, .tmp 15, .tmp 16, .tmp 17], argTypes := #[25, 55, 3, 3] }) (by kernel_rfl)
  have hgd := op_at ho (·.guard) (x := none) (by kernel_rfl)
  refine ⟨fun j b h => (by rw [hgd] at h; cases h), ?_⟩
  have e0 : a.eval (.tmp 13) = .agg #[.int .i64 Wd, .slice A n c, .slice A' n' c'] := haft 0 (op_at ho (fun o => o.after.any fun e => decide (e.on = 0) && Region.binds .any e) (x := true) (by kernel_rfl))
  obtain ⟨T, cT, e2, hT⟩ := haft 2 (op_at ho (fun o => o.after.any fun e => decide (e.on = 2) && Region.binds .any e) (x := true) (by kernel_rfl))
  rw [show 13 + 2 = 15 from rfl] at e2
  have e3 : a.eval (.tmp 16) = .int .i64 one := haft 3 (op_at ho (fun o => o.after.any fun e => decide (e.on = 3) && Region.binds .any e) (x := true) (by kernel_rfl))
  have e4 : a.eval (.tmp 17) = .int .i64 two := haft 4 (op_at ho (fun o => o.after.any fun e => decide (e.on = 4) && Region.binds .any e) (x := true) (by kernel_rfl))
  have hX := hx.ext hB
  have hc := touches_ref (Wd := Wd) T _ cT (ds.map (endOf true)) h0 hX.bath rfl (by rw [List.length_map, hX.bath.nds]; exact Nat.le_refl _) (by rw [List.length_map]; have := h0.many.2; omega) hT (ends_bd h0 true) one two h1 h1' h2 h2' hne
  rw [hr] at hc
  exact specs_call (R := kindS Wd A n c A' n' c' (ds.map (endOf true)) one two r 5) (f := 46) (args := #[.agg #[.int .i64 Wd, .slice A n c, .slice A' n' c'], .slice T (ds.map (endOf true)).length cT, .int .i64 one, .int .i64 two]) (by simp [execOp, hop, go_sem, ev e0, ev e2, ev e3, ev e4]) (hc.mono fun e w' h => ⟨_, h.1, rfl, h.2⟩)
end
end Go.Proofs.Ytgdpgdnhhjclcaa

/- The reference's kind, Touch. -/
namespace Go.Proofs.Ytgdpgdnhhjclcaa
open Go.RowKit Go.Shelf

section
variable {w : World} {Wd : Int} {A : Option Addr} {n c : Nat} {A' : Option Addr} {n' c' : Nat} {ss : List (Int × Int)} {ds : List (Int × Int × Int)}

set_option maxRecDepth 100000 in
set_option maxHeartbeats 4000000 in
theorem kind_ref (one two : Int) (h0 : Few Wd ss ds) (hb : IsBath w w.heap.size A n c A' n' c' ss ds) (h1 : -2 ≤ one) (h1' : one < n) (h2 : -2 ≤ two) (h2' : two < n) (hne : one ≠ two) :
    Calls Try.prog 71 #[.agg #[.int .i64 Wd, .slice A n c, .slice A' n' c'], .int .i64 one, .int .i64 two] w fun e w' => e = .returned (.int .i64 (kindOf Wd ss (sizes ds) one two)) ∧ Ext w w' := by
  obtain ⟨r1, hr1⟩ : ∃ r, meetB Wd ss (fun j => sumAt ds (ds.map (endOf false)) j n') one two = r := ⟨_, rfl⟩
  obtain ⟨r2, hr2⟩ : ∃ r, meetB Wd ss (fun j => sumAt ds (ds.map (endOf true)) j n') one two = r := ⟨_, rfl⟩
  have hans : kindOf Wd ss (sizes ds) one two = if r1 then 2 else if r2 then 1 else 0 := by
    have e1 := hr1
    have e2 := hr2
    rw [hb.nds, meet_ends] at e1 e2
    unfold kindOf
    simp only [Bool.false_eq_true, if_false, if_true] at e1 e2
    rw [e1, e2]
  rw [hans]
  clear hans
  have h00 := BathAt.new (Wd := Wd) hb
  obtain ⟨w0, hw0⟩ : ∃ w0, w.alloc (.cells #[.int .i64 Wd, .slice A n c, .slice A' n' c'] 25) = w0 := ⟨_, rfl⟩
  have e0 : Ext w w0 := by rw [← hw0]; exact ext_alloc w _
  rw [hw0] at h00
  have HW := Lib.hid hw0
  have HX := Lib.hid h00
  have HE := Lib.hid e0
  clear hw0 h00 e0 hb
  go_enter Try.func71, Try.ntmps71
  go_upto_region 1 with fail
  rw [HW.out]
  clear HW
  generalize w.heap.size = p0 at HX ⊢
  refine wp_region_specs (ops := kindReg1) (kindS Wd A n c A' n' c' (ds.map (endOf false)) one two r1) (Ext w0) (by kernel_rfl) (by kernel_rfl) ⟨rfl, rfl, rfl, Nat.le_refl _, fun _ _ => rfl⟩ (fun _ _ h e => h.trans e) (kindS_ext Wd A n c A' n' c' (ds.map (endOf false)) one two r1) (fun k => 7 + k) (by kernel_rfl) ?_ ?_
  · intro k o ho a W hB hsz hold haft
    have hk : k < 6 := (Array.getElem?_eq_some_iff.1 ho).1
    match k, hk with
    | 0, _ => exact kind1_op0 (hold 3 (by kernel_rfl)) HX.out ho hB haft
    | 1, _ => exact kind1_op1 (hold 3 (by kernel_rfl)) HX.out ho hB haft
    | 2, _ => exact kind1_op2 HX.out h0 ho hB haft
    | 3, _ => exact kind1_op3 (hold 1 (by kernel_rfl)) ho hB haft
    | 4, _ => exact kind1_op4 (hold 2 (by kernel_rfl)) ho hB haft
    | 5, _ => exact kind1_op5 HX.out h0 h1 h1' h2 h2' hne hr1 ho hB haft
    | k + 6, h => exact absurd h (by omega)
  · intro a W hB hsz hdf hold hS
    have hsize : 6 = kindReg1.size := by kernel_rfl
    obtain ⟨T, cT, e2, _⟩ : IntsAt (ds.map (endOf false)) (a.eval (.tmp 9)) W := hS 2 (by rw [← hsize]; omega)
    have hall : ∀ x, x ∈ ([(7, .agg #[.int .i64 Wd, .slice A n c, .slice A' n' c']), (8, .agg #[.int .i64 Wd, .slice A n c, .slice A' n' c']), (9, .slice T (ds.map (endOf false)).length cT), (10, .int .i64 one), (11, .int .i64 two), (12, .bool r1)] : List (Tmp × Value)) → x.1 < 19 ∧ a.eval (.tmp x.1) = x.2 := by
      intro x hx
      simp only [List.mem_cons, List.not_mem_nil, or_false] at hx
      rcases hx with rfl | rfl | rfl | rfl | rfl | rfl
      · exact ⟨(show (7 : Nat) < 19 by omega), hS 0 (by rw [← hsize]; omega)⟩
      · exact ⟨(show (8 : Nat) < 19 by omega), hS 1 (by rw [← hsize]; omega)⟩
      · exact ⟨(show (9 : Nat) < 19 by omega), e2⟩
      · exact ⟨(show (10 : Nat) < 19 by omega), hS 3 (by rw [← hsize]; omega)⟩
      · exact ⟨(show (11 : Nat) < 19 by omega), hS 4 (by rw [← hsize]; omega)⟩
      · exact ⟨(show (12 : Nat) < 19 by omega), hS 5 (by rw [← hsize]; omega)⟩
    have ha := act_puts hsz hdf hall (fun t ht => hold t (all_ne_of (l := [(7, .agg #[.int .i64 Wd, .slice A n c, .slice A' n' c']), (8, .agg #[.int .i64 Wd, .slice A n c, .slice A' n' c']), (9, .slice T (ds.map (endOf false)).length cT), (10, .int .i64 one), (11, .int .i64 two), (12, .bool r1)]) (by kernel_rfl) ht))
    clear hall hS hold hsz hdf e2 hsize
    rw [ha]
    clear ha
    simp only [Exit.then, puts, List.foldl_cons, List.foldl_nil, Act.put, List.setIfInBounds_toArray, List.set_cons_succ, List.set_cons_zero]
    go_at_K
    have HE2 := Lib.hid (HE.out.trans hB)
    have HX2 := Lib.hid (HX.out.ext hB)
    clear HX HE hB hr1
    cases r1 with
    | true =>
      go_wp2
      go_ret
      exact ⟨rfl, HE2.out⟩
    | false =>
      go_upto_region 3 with fail
      refine wp_region_specs (ops := kindReg3) (kindS Wd A n c A' n' c' (ds.map (endOf true)) one two r2) (Ext W) (by kernel_rfl) (by kernel_rfl) ⟨rfl, rfl, rfl, Nat.le_refl _, fun _ _ => rfl⟩ (fun _ _ h e => h.trans e) (kindS_ext Wd A n c A' n' c' (ds.map (endOf true)) one two r2) (fun k => 13 + k) (by kernel_rfl) ?_ ?_
      · intro k o ho a W2 hB hsz hold haft
        have hk : k < 6 := (Array.getElem?_eq_some_iff.1 ho).1
        match k, hk with
        | 0, _ => exact kind3_op0 (hold 3 (by kernel_rfl)) HX2.out ho hB haft
        | 1, _ => exact kind3_op1 (hold 3 (by kernel_rfl)) HX2.out ho hB haft
        | 2, _ => exact kind3_op2 HX2.out h0 ho hB haft
        | 3, _ => exact kind3_op3 (hold 1 (by kernel_rfl)) ho hB haft
        | 4, _ => exact kind3_op4 (hold 2 (by kernel_rfl)) ho hB haft
        | 5, _ => exact kind3_op5 HX2.out h0 h1 h1' h2 h2' hne hr2 ho hB haft
        | k + 6, h => exact absurd h (by omega)
      · intro a W2 hB hsz hdf hold hS
        have hsize : 6 = kindReg3.size := by kernel_rfl
        obtain ⟨T, cT, e2, _⟩ : IntsAt (ds.map (endOf true)) (a.eval (.tmp 15)) W2 := hS 2 (by rw [← hsize]; omega)
        have hall : ∀ x, x ∈ ([(13, .agg #[.int .i64 Wd, .slice A n c, .slice A' n' c']), (14, .agg #[.int .i64 Wd, .slice A n c, .slice A' n' c']), (15, .slice T (ds.map (endOf true)).length cT), (16, .int .i64 one), (17, .int .i64 two), (18, .bool r2)] : List (Tmp × Value)) → x.1 < 19 ∧ a.eval (.tmp x.1) = x.2 := by
          intro x hx
          simp only [List.mem_cons, List.not_mem_nil, or_false] at hx
          rcases hx with rfl | rfl | rfl | rfl | rfl | rfl
          · exact ⟨(show (13 : Nat) < 19 by omega), hS 0 (by rw [← hsize]; omega)⟩
          · exact ⟨(show (14 : Nat) < 19 by omega), hS 1 (by rw [← hsize]; omega)⟩
          · exact ⟨(show (15 : Nat) < 19 by omega), e2⟩
          · exact ⟨(show (16 : Nat) < 19 by omega), hS 3 (by rw [← hsize]; omega)⟩
          · exact ⟨(show (17 : Nat) < 19 by omega), hS 4 (by rw [← hsize]; omega)⟩
          · exact ⟨(show (18 : Nat) < 19 by omega), hS 5 (by rw [← hsize]; omega)⟩
        have ha := act_puts hsz hdf hall (fun t ht => hold t (all_ne_of (l := [(13, .agg #[.int .i64 Wd, .slice A n c, .slice A' n' c']), (14, .agg #[.int .i64 Wd, .slice A n c, .slice A' n' c']), (15, .slice T (ds.map (endOf true)).length cT), (16, .int .i64 one), (17, .int .i64 two), (18, .bool r2)]) (by kernel_rfl) ht))
        clear hall hS hold hsz hdf e2 hsize
        rw [ha]
        clear ha
        simp only [Exit.then, puts, List.foldl_cons, List.foldl_nil, Act.put, List.setIfInBounds_toArray, List.set_cons_succ, List.set_cons_zero]
        go_at_K
        have HE3 := Lib.hid (HE2.out.trans hB)
        clear HX2 HE2 hB hr2
        cases r2 with
        | true =>
          go_wp2
          go_ret
          exact ⟨rfl, HE3.out⟩
        | false =>
          go_wp2
          go_ret
          exact ⟨rfl, HE3.out⟩

set_option maxRecDepth 100000 in
set_option maxHeartbeats 1000000 in
theorem touch_ref (one two : Int) (hb : IsBath w w.heap.size A n c A' n' c' ss ds) :
    Calls Try.prog 22 #[.agg #[.int .i64 Wd, .slice A n c, .slice A' n' c'], .int .i64 one, .int .i64 two] w fun e w' => e = .returned (.tuple #[.int .i64 (touchAns Wd ss ds one two).1, .int .i64 (touchAns Wd ss ds one two).2]) ∧ Ext w w' := by
  have cP : ∀ W : World, IsBath W W.heap.size A n c A' n' c' ss ds → _ := fun W h => places_ref (Wd := Wd) one two h
  have hX0 : BathAt (w.alloc (.cells #[.int .i64 Wd, .slice A n c, .slice A' n' c'] 25)) w.heap.size Wd A n c A' n' c' ss ds := BathAt.new hb
  have hE0 : Ext w (w.alloc (.cells #[.int .i64 Wd, .slice A n c, .slice A' n' c'] 25)) := ext_alloc w _
  have hnn := hb.nss
  clear hb
  by_cases he : forErr Wd ss ds one two = 0
  · have ha : touchAns Wd ss ds one two = (kindOf Wd ss (sizes ds) one two, 0) := by unfold touchAns; rw [if_pos he]
    rw [ha]
    obtain ⟨g0, g1, g2, g3⟩ := forErr_ok he
    rw [he] at cP
    rw [← hnn] at g2 g3
    have cK : ∀ W : World, IsBath W W.heap.size A n c A' n' c' ss ds → _ := fun W h => kind_ref (Wd := Wd) one two (bath_few g0) h g2.1 g2.2 g3.1 g3.2 g1
    generalize kindOf Wd ss (sizes ds) one two = r at cK ⊢
    clear ha he g0 g1 g2 g3 hnn
    go_enter Try.func22, Try.ntmps22
    go_wp2_with fail
    refine (cP _ hX0.bath).mono ?_
    rintro e w1 ⟨rfl, hb1⟩
    have hX1 := hX0.ext hb1
    have hE1 := Lib.hid (hE0.trans hb1)
    clear hX0 hE0 hb1
    obtain ⟨q0, q1, q2⟩ := hX1.cells
    go_wp2_with fail
    refine (cK _ hX1.bath).mono ?_
    rintro e w2 ⟨rfl, hb2⟩
    go_wp2
    go_ret2
    exact ⟨rfl, hE1.out.trans hb2⟩
  · have ha : touchAns Wd ss ds one two = (0, forErr Wd ss ds one two) := by unfold touchAns; rw [if_neg he]
    rw [ha]
    generalize forErr Wd ss ds one two = r at he cP ⊢
    have hne2 : (r != 0) = true := by simpa using he
    clear ha hnn
    go_enter Try.func22, Try.ntmps22
    go_wp2_with fail
    refine (cP _ hX0.bath).mono ?_
    rintro e w1 ⟨rfl, hb1⟩
    have hX1 := hX0.ext hb1
    have hE1 := Lib.hid (hE0.trans hb1)
    clear hX0 hE0 hb1
    obtain ⟨q0, q1, q2⟩ := hX1.cells
    go_wp2_with fail
    refine (cP _ hX1.bath).mono ?_
    rintro e w2 ⟨rfl, hb2⟩
    go_wp2
    go_ret2
    exact ⟨rfl, hE1.out.trans hb2⟩
end
end Go.Proofs.Ytgdpgdnhhjclcaa

/- The reference's Beside. -/
namespace Go.Proofs.Ytgdpgdnhhjclcaa
open Go.RowKit Go.Shelf

/-- The spot of the k-th drop. -/
def spotAt (ds : List (Int × Int × Int)) (k : Nat) : Int := (ds.getD k (0, 0, 0)).1
/-- The kind of two different drops, as the reference has it. -/
def besideR (Wd : Int) (ss : List (Int × Int)) (ds : List (Int × Int × Int)) (mn mx k l : Nat) : Int :=
  if spotAt ds k = spotAt ds l then if (List.range mx).all (fun i => !(decide (mn < i) && decide (spotAt ds i = spotAt ds k))) then 2 else 0
  else if firstB ds k && firstB ds l then kindOf Wd ss (sizes ds) (spotAt ds k) (spotAt ds l) else 0

section
variable {w : World} {Wd : Int} {A : Option Addr} {n c : Nat} {A' : Option Addr} {n' c' : Nat} {ss : List (Int × Int)} {ds : List (Int × Int × Int)}

theorem spot_lt (h0 : bathErr Wd ss ds = 0) {k : Nat} (hk : k < ds.length) : 0 ≤ spotAt ds k ∧ spotAt ds k < ss.length := by
  have h1 := List.all_eq_true.1 (bath_ok h0).2.2.2.2 ds[k] (List.getElem_mem hk)
  simp only [dropOk, Bool.and_eq_true, decide_eq_true_eq] at h1
  have e : spotAt ds k = ds[k].1 := by simp [spotAt, List.getElem?_eq_getElem hk]
  rw [e]
  exact ⟨h1.1.1.1, h1.1.1.2⟩

theorem firstB_findIdx {k : Nat} (hk : k < ds.length) : firstB ds k = true ↔ (ds.findIdx fun d => decide (d.1 = spotAt ds k)) = k := by
  have e : ∀ j, j < ds.length → spotAt ds j = (ds.getD j (0, 0, 0)).1 := fun _ _ => rfl
  unfold firstB
  rw [List.all_eq_true]
  constructor
  · intro h
    refine findIdx_hit _ ds k hk (fun j hj => ?_) ?_
    · have := h j (List.mem_range.2 hj)
      have hjl : j < ds.length := by omega
      simpa [spotAt, List.getElem?_eq_getElem hjl] using this
    · simp [spotAt, List.getElem?_eq_getElem hk]
  · intro h j hj
    have hjk := List.mem_range.1 hj
    have hjl : j < ds.length := by omega
    have := List.not_of_lt_findIdx (p := fun d => decide (d.1 = spotAt ds k)) (xs := ds) (i := j) (by rw [h]; exact hjk)
    simpa [spotAt, List.getElem?_eq_getElem hjl] using this

theorem besideR_kind {mn mx : Nat} (hlt : mn < mx) (hmx : mx < ds.length) : besideR Wd ss ds mn mx mn mx = besideKind Wd ss ds mn mx := by
  unfold besideR besideKind
  show (if spotAt ds mn = spotAt ds mx then _ else _) = (if spotAt ds mn = spotAt ds mx then _ else _)
  by_cases hs : spotAt ds mn = spotAt ds mx
  · rw [if_pos hs, if_pos hs]
    have key : ((List.range mx).all fun i => !(decide (mn < i) && decide (spotAt ds i = spotAt ds mn))) = true ↔ ((mn : Int) + 1 + ((ds.drop (mn + 1)).findIdx fun d => decide (d.1 = (ds.getD mn (0, 0, 0)).1)) = mx) := by
      have hl : mx - (mn + 1) < (ds.drop (mn + 1)).length := by rw [List.length_drop]; omega
      have hgm : (ds.drop (mn + 1))[mx - (mn + 1)] = ds[mx] := by rw [List.getElem_drop]; congr 1; omega
      rw [List.all_eq_true]
      constructor
      · intro h
        have := findIdx_hit (fun d : Int × Int × Int => decide (d.1 = (ds.getD mn (0, 0, 0)).1)) (ds.drop (mn + 1)) (mx - (mn + 1)) hl (fun j hj => ?_) ?_
        · rw [this]
          omega
        · rw [List.getElem_drop]
          have h1 := h (mn + 1 + j) (List.mem_range.2 (by omega))
          have hjl : mn + 1 + j < ds.length := by omega
          have h2 : mn < mn + 1 + j := by omega
          simpa [h2, spotAt, List.getElem?_eq_getElem hjl] using h1
        · rw [hgm]
          have h3 : spotAt ds mx = ds[mx].1 := by simp [spotAt, List.getElem?_eq_getElem hmx]
          rw [← h3, ← hs]
          simp [spotAt]
      · intro h i hi
        have him := List.mem_range.1 hi
        by_cases hmi : mn < i
        · have hil : i < ds.length := by omega
          have hj : i - (mn + 1) < (ds.drop (mn + 1)).findIdx fun d => decide (d.1 = (ds.getD mn (0, 0, 0)).1) := by omega
          have := List.not_of_lt_findIdx hj
          rw [List.getElem_drop] at this
          have e : mn + 1 + (i - (mn + 1)) = i := by omega
          simp only [e] at this
          have h4 : spotAt ds i = ds[i].1 := by simp [spotAt, List.getElem?_eq_getElem hil]
          simp only [hmi, decide_true, Bool.true_and, h4]
          simpa [spotAt] using this
        · simp [hmi]
    by_cases hk : ((List.range mx).all fun i => !(decide (mn < i) && decide (spotAt ds i = spotAt ds mn))) = true
    · rw [if_pos hk, if_pos (key.1 hk)]
    · rw [if_neg hk, if_neg (fun h => hk (key.2 h))]
  · rw [if_neg hs, if_neg hs]
    have f1 := firstB_findIdx (ds := ds) (k := mn) (by omega)
    have f2 := firstB_findIdx (ds := ds) (k := mx) hmx
    by_cases hf : (firstB ds mn && firstB ds mx) = true
    · rw [if_pos hf]
      rw [Bool.and_eq_true] at hf
      rw [if_pos ⟨by show ((ds.findIdx fun d => decide (d.1 = spotAt ds mn) : Nat) : Int) = (mn : Int); rw [f1.1 hf.1], by show ((ds.findIdx fun d => decide (d.1 = spotAt ds mx) : Nat) : Int) = (mx : Int); rw [f2.1 hf.2]⟩]
      rfl
    · rw [if_neg hf, if_neg]
      rintro ⟨h1, h2⟩
      apply hf
      rw [Bool.and_eq_true]
      have h1' : ((ds.findIdx fun d => decide (d.1 = spotAt ds mn) : Nat) : Int) = mn := h1
      have h2' : ((ds.findIdx fun d => decide (d.1 = spotAt ds mx) : Nat) : Int) = mx := h2
      exact ⟨f1.2 (by omega), f2.2 (by omega)⟩
theorem besideR_comm (mn mx k l : Nat) : besideR Wd ss ds mn mx k l = besideR Wd ss ds mn mx l k := by
  unfold besideR
  by_cases hs : spotAt ds k = spotAt ds l
  · rw [if_pos hs, if_pos hs.symm, hs]
  · rw [if_neg hs, if_neg (show ¬ spotAt ds l = spotAt ds k from fun e => hs e.symm), kindOf_comm, Bool.and_comm]
end
end Go.Proofs.Ytgdpgdnhhjclcaa

/- The reference's Beside: the walk. -/
namespace Go.Proofs.Ytgdpgdnhhjclcaa
open Go.RowKit Go.Shelf

section
variable {w : World} {Wd : Int} {A : Option Addr} {n c : Nat} {A' : Option Addr} {n' c' : Nat} {ss : List (Int × Int)} {ds : List (Int × Int × Int)}

set_option maxRecDepth 100000 in
set_option maxHeartbeats 4000000 in
theorem beside_ref_ok (k l mn mx : Nat) (h0 : bathErr Wd ss ds = 0) (hb : IsBath w w.heap.size A n c A' n' c' ss ds) (hk : k < n') (hl : l < n') (hkl : k ≠ l) (hmn : min (k : Int) (l : Int) = (mn : Int)) (hmx : max (k : Int) (l : Int) = (mx : Int)) (hlt : mn < mx) (hmxn : mx < n') :
    Calls Try.prog 24 #[.agg #[.int .i64 Wd, .slice A n c, .slice A' n' c'], .int .i64 (k : Int), .int .i64 (l : Int)] w fun e w' => e = .returned (.tuple #[.int .i64 (besideR Wd ss ds mn mx k l), .int .i64 0]) ∧ Ext w w' := by
  have cB : ∀ W : World, IsBath W W.heap.size A n c A' n' c' ss ds → _ := fun W h => checkBath_ref (Wd := Wd) h
  rw [h0] at cB
  have cD := fun (x : Int) (W : World) => isDrop_ref (Wd := Wd) (A := A) (n := n) (c := c) (A' := A') (n' := n') (c' := c') x W
  have cD1 := cD (k : Int)
  have cD2 := cD (l : Int)
  rw [show (decide (0 ≤ (k : Int)) && decide ((k : Int) < (n' : Int))) = true from by simp; omega] at cD1
  rw [show (decide (0 ≤ (l : Int)) && decide ((l : Int) < (n' : Int))) = true from by simp; omega] at cD2
  have cF : ∀ (j : Nat), j < n' → ∀ W : World, IsBath W W.heap.size A n c A' n' c' ss ds → _ := fun j hj W h => first_ref (Wd := Wd) j h hj
  have hX0 : BathAt (w.alloc (.cells #[.int .i64 Wd, .slice A n c, .slice A' n' c'] 25)) w.heap.size Wd A n c A' n' c' ss ds := BathAt.new hb
  have hE0 : Ext w (w.alloc (.cells #[.int .i64 Wd, .slice A n c, .slice A' n' c'] 25)) := ext_alloc w _
  obtain ⟨S, hS⟩ : ∃ S, spotAt ds k = S := ⟨_, rfl⟩
  obtain ⟨T, hT⟩ : ∃ T, spotAt ds l = T := ⟨_, rfl⟩
  have bS := spot_lt h0 (show k < ds.length by rw [← hb.nds]; exact hk)
  have bT := spot_lt h0 (show l < ds.length by rw [← hb.nds]; exact hl)
  rw [← hb.nss, hS] at bS
  rw [← hb.nss, hT] at bT
  have cK : S ≠ T → ∀ W : World, IsBath W W.heap.size A n c A' n' c' ss ds → _ := fun hne W h => kind_ref (Wd := Wd) S T (bath_few h0) h (by omega) bS.2 (by omega) bT.2 hne
  obtain ⟨ans, hans⟩ : ∃ ans, besideR Wd ss ds mn mx k l = ans := ⟨_, rfl⟩
  rw [hans]
  have HANS : Hid (ans = if S = T then if (List.range mx).all (fun i => !(decide (mn < i) && decide (spotAt ds i = S))) then 2 else 0 else if firstB ds k && firstB ds l then kindOf Wd ss (sizes ds) S T else 0) := Lib.hid (by
    rw [← hans]
    unfold besideR
    rw [hS, hT])
  have hklz : ((k : Int) == (l : Int)) = false := by simp; omega
  have hmxb : (mx : Int) ≤ 9223372036854775807 := by have := hb.nle'; omega
  have hkz : (k : Int) < (n' : Int) := by omega
  have hlz : (l : Int) < (n' : Int) := by omega
  clear cD hans hb h0
  go_enter Try.func24, Try.ntmps24
  go_wp2_with fail
  refine (cB _ hX0.bath).mono ?_
  rintro e w1 ⟨rfl, hb1⟩
  have hX1 := hX0.ext hb1
  have hE1 := hE0.trans hb1
  clear hX0 hE0 hb1
  obtain ⟨q0, q1, q2⟩ := hX1.cells
  go_wp2_with fail
  refine (cD1 _).mono ?_
  rintro e w2 ⟨rfl, hb2⟩
  have hX2 := hX1.ext hb2
  have hE2 := hE1.trans hb2
  clear hX1 hE1 hb2 q0 q1 q2
  obtain ⟨q0, q1, q2⟩ := hX2.cells
  go_wp2_with fail
  refine (cD2 _).mono ?_
  rintro e w3 ⟨rfl, hb3⟩
  have hX3 := hX2.ext hb3
  have hE3 := Lib.hid (hE2.trans hb3)
  clear hX2 hE2 hb3 q0 q1 q2 cB cD1 cD2
  obtain ⟨q0, q1, q2⟩ := hX3.cells
  obtain ⟨b, off, rfl, d0, d1, d2⟩ := hX3.drop hk
  obtain ⟨b', off', hbb, c0, c1, c2⟩ := hX3.drop hl
  cases hbb
  rw [show (ds.getD k (0, 0, 0)).1 = S from hS] at d0
  rw [show (ds.getD l (0, 0, 0)).1 = T from hT] at c0
  have HX := Lib.hid hX3
  have HST := Lib.hid (And.intro hS hT)
  clear hX3 d1 d2 c1 c2 hS hT
  go_wp2
  go_quiet (fail)
  obtain ⟨w4, hw4⟩ : ∃ w4, w3.drewN nq = w4 := ⟨_, rfl⟩
  have e4 : Ext w3 w4 := by rw [← hw4]; exact ext_drewN (Ext.refl _) _
  rw [hw4]
  have HX4 := Lib.hid (HX.out.ext e4)
  have HE4 := Lib.hid (hE3.out.trans e4)
  clear hw4 e4 HX hE3 q0 q1 q2 d0 c0
  by_cases hst : S = T
  · subst hst
    have HAN : Hid (ans = if (List.range mx).all (fun i => !(decide (mn < i) && decide (spotAt ds i = S))) then 2 else 0) := Lib.hid (by rw [HANS.out, if_pos rfl])
    clear HANS cF cK
    go_wp2
    go_loopw [10] (fun i wr => ∃ j : Nat, mn + 1 ≤ j ∧ j ≤ mx ∧ i = .int .i64 j ∧ Hid (Ext w4 wr) ∧ Hid (∀ m, mn < m → m < j → spotAt ds m ≠ S)) (fun i _ => mx - (intOf i).toNat)
    case atStart => exact ⟨mn + 1, Nat.le_refl _, hlt, by go_num, Lib.hid (Ext.refl _), Lib.hid (fun m h1 h2 => by omega)⟩
    case round =>
      obtain ⟨j, hj1, hj2, rfl, hB, hN⟩ := hrel
      have hx := HX4.out.ext hB.out
      obtain ⟨q0, q1, q2⟩ := hx.cells
      by_cases hjm : j < mx
      · have hjz : (j : Int) < (mx : Int) := by omega
        have hjn : (j : Int) < (n' : Int) := by omega
        obtain ⟨b1, off1, hbb, d0, d1, d2⟩ := hx.drop (k := j) (by omega)
        cases hbb
        obtain ⟨y, hy⟩ : ∃ y, spotAt ds j = y := ⟨_, rfl⟩
        rw [show (ds.getD j (0, 0, 0)).1 = y from hy] at d0
        have HY := Lib.hid hy
        clear hx hy d1 d2
        by_cases hys : y = S
        · subst hys
          obtain rfl : ans = 0 := by
            rw [HAN.out, if_neg]
            rw [Bool.not_eq_true, List.all_eq_false]
            exact ⟨j, List.mem_range.2 hjm, by rw [HY.out]; simp; omega⟩
          go_wp2
          go_ret2
          exact ⟨rfl, HE4.out.trans hB.out⟩
        · have e1 : (y == S) = false := by simp [hys]
          have hN1 : Hid (∀ m, mn < m → m < j + 1 → spotAt ds m ≠ S) := Lib.hid fun m h1 h2 => by
            by_cases e : m = j
            · subst e
              rw [HY.out]
              exact hys
            · exact hN.out m h1 (by omega)
          clear HY hys hN
          go_wp2
          go_roundw
          case measure => simp [intOf]; omega
          case rel => exact ⟨j + 1, by omega, by omega, by go_num, hB, hN1⟩
      · have hjz : ¬ (j : Int) < (mx : Int) := by omega
        obtain rfl : ans = 2 := by
          rw [HAN.out, if_pos]
          rw [List.all_eq_true]
          intro i hi
          have him := List.mem_range.1 hi
          by_cases hmi : mn < i
          · have := hN.out i hmi (by omega)
            simp [hmi, this]
          · simp [hmi]
        clear hx
        go_wp2
        go_ret2
        exact ⟨rfl, HE4.out.trans hB.out⟩
  · have e1 : (S == T) = false := by simp [hst]
    have cK' := cK hst
    have HAN : Hid (ans = if firstB ds k && firstB ds l then kindOf Wd ss (sizes ds) S T else 0) := Lib.hid (by rw [HANS.out, if_neg hst])
    have cF1 := cF k hk
    have cF2 := cF l hl
    clear HANS cK cF hst
    obtain ⟨q0, q1, q2⟩ := HX4.out.cells
    cases f1 : firstB ds k with
    | false =>
      rw [f1] at cF1
      obtain rfl : ans = 0 := by rw [HAN.out, f1]; rfl
      go_wp2_with fail
      refine (cF1 _ HX4.out.bath).mono ?_
      rintro e w5 ⟨rfl, hb5⟩
      go_wp2
      go_ret2
      exact ⟨rfl, HE4.out.trans hb5⟩
    | true =>
      rw [f1] at cF1
      go_wp2_with fail
      refine (cF1 _ HX4.out.bath).mono ?_
      rintro e w5 ⟨rfl, hb5⟩
      have HX5 := Lib.hid (HX4.out.ext hb5)
      have HE5 := Lib.hid (HE4.out.trans hb5)
      clear q0 q1 q2 hb5 cF1
      obtain ⟨q0, q1, q2⟩ := HX5.out.cells
      cases f2 : firstB ds l with
      | false =>
        rw [f2] at cF2
        obtain rfl : ans = 0 := by rw [HAN.out, f1, f2]; rfl
        go_wp2_with fail
        refine (cF2 _ HX5.out.bath).mono ?_
        rintro e w6 ⟨rfl, hb6⟩
        go_wp2
        go_ret2
        exact ⟨rfl, HE5.out.trans hb6⟩
      | true =>
        rw [f2] at cF2
        have hka : kindOf Wd ss (sizes ds) S T = ans := by rw [HAN.out, f1, f2]; rfl
        rw [hka] at cK'
        clear f1 f2 HAN hka
        go_wp2_with fail
        refine (cF2 _ HX5.out.bath).mono ?_
        rintro e w6 ⟨rfl, hb6⟩
        have HX6 := Lib.hid (HX5.out.ext hb6)
        have HE6 := Lib.hid (HE5.out.trans hb6)
        clear q0 q1 q2 hb6 cF2
        obtain ⟨q0, q1, q2⟩ := HX6.out.cells
        go_wp2_with fail
        refine (cK' _ HX6.out.bath).mono ?_
        rintro e w7 ⟨rfl, hb7⟩
        go_wp2
        go_ret2
        exact ⟨rfl, HE6.out.trans hb7⟩

set_option maxRecDepth 100000 in
set_option maxHeartbeats 1000000 in
theorem beside_ref_bad (one two : Int) (h0 : bathErr Wd ss ds = 0) (hb : IsBath w w.heap.size A n c A' n' c' ss ds) (h : ¬ (0 ≤ one ∧ one < (n' : Int)) ∨ ¬ (0 ≤ two ∧ two < (n' : Int)) ∨ one = two) :
    Calls Try.prog 24 #[.agg #[.int .i64 Wd, .slice A n c, .slice A' n' c'], .int .i64 one, .int .i64 two] w fun e w' => e = .returned (.tuple #[.int .i64 0, .int .i64 2]) ∧ Ext w w' := by
  have cB : ∀ W : World, IsBath W W.heap.size A n c A' n' c' ss ds → _ := fun W h => checkBath_ref (Wd := Wd) h
  rw [h0] at cB
  have cD := fun (x : Int) (W : World) => isDrop_ref (Wd := Wd) (A := A) (n := n) (c := c) (A' := A') (n' := n') (c' := c') x W
  have cD1 := cD one
  have cD2 := cD two
  have hX0 : BathAt (w.alloc (.cells #[.int .i64 Wd, .slice A n c, .slice A' n' c'] 25)) w.heap.size Wd A n c A' n' c' ss ds := BathAt.new hb
  have hE0 : Ext w (w.alloc (.cells #[.int .i64 Wd, .slice A n c, .slice A' n' c'] 25)) := ext_alloc w _
  clear cD hb h0
  by_cases h1 : 0 ≤ one ∧ one < (n' : Int)
  · rw [show (decide (0 ≤ one) && decide (one < (n' : Int))) = true from by simp; omega] at cD1
    by_cases h2 : 0 ≤ two ∧ two < (n' : Int)
    · rw [show (decide (0 ≤ two) && decide (two < (n' : Int))) = true from by simp; omega] at cD2
      have h12 : one = two := by omega
      subst h12
      clear h h1 h2
      go_enter Try.func24, Try.ntmps24
      go_wp2_with fail
      refine (cB _ hX0.bath).mono ?_
      rintro e w1 ⟨rfl, hb1⟩
      have hX1 := hX0.ext hb1
      have hE1 := hE0.trans hb1
      clear hX0 hE0 hb1
      obtain ⟨q0, q1, q2⟩ := hX1.cells
      go_wp2_with fail
      refine (cD1 _).mono ?_
      rintro e w2 ⟨rfl, hb2⟩
      have hX2 := hX1.ext hb2
      have hE2 := Lib.hid (hE1.trans hb2)
      clear hX1 hE1 hb2 q0 q1 q2
      obtain ⟨q0, q1, q2⟩ := hX2.cells
      go_wp2_with fail
      refine (cD2 _).mono ?_
      rintro e w3 ⟨rfl, hb3⟩
      go_wp2
      go_ret2
      exact ⟨rfl, hE2.out.trans hb3⟩
    · rw [show (decide (0 ≤ two) && decide (two < (n' : Int))) = false from by simp; omega] at cD2
      clear h h1 h2
      go_enter Try.func24, Try.ntmps24
      go_wp2_with fail
      refine (cB _ hX0.bath).mono ?_
      rintro e w1 ⟨rfl, hb1⟩
      have hX1 := hX0.ext hb1
      have hE1 := hE0.trans hb1
      clear hX0 hE0 hb1
      obtain ⟨q0, q1, q2⟩ := hX1.cells
      go_wp2_with fail
      refine (cD1 _).mono ?_
      rintro e w2 ⟨rfl, hb2⟩
      have hX2 := hX1.ext hb2
      have hE2 := Lib.hid (hE1.trans hb2)
      clear hX1 hE1 hb2 q0 q1 q2
      obtain ⟨q0, q1, q2⟩ := hX2.cells
      go_wp2_with fail
      refine (cD2 _).mono ?_
      rintro e w3 ⟨rfl, hb3⟩
      go_wp2
      go_ret2
      exact ⟨rfl, hE2.out.trans hb3⟩
  · rw [show (decide (0 ≤ one) && decide (one < (n' : Int))) = false from by simp; omega] at cD1
    clear h h1 cD2
    go_enter Try.func24, Try.ntmps24
    go_wp2_with fail
    refine (cB _ hX0.bath).mono ?_
    rintro e w1 ⟨rfl, hb1⟩
    have hX1 := hX0.ext hb1
    have hE1 := Lib.hid (hE0.trans hb1)
    clear hX0 hE0 hb1
    obtain ⟨q0, q1, q2⟩ := hX1.cells
    go_wp2_with fail
    refine (cD1 _).mono ?_
    rintro e w2 ⟨rfl, hb2⟩
    go_wp2
    go_ret2
    exact ⟨rfl, hE1.out.trans hb2⟩

set_option maxRecDepth 100000 in
set_option maxHeartbeats 1000000 in
theorem beside_ref_err (one two : Int) (he : bathErr Wd ss ds ≠ 0) (hb : IsBath w w.heap.size A n c A' n' c' ss ds) :
    Calls Try.prog 24 #[.agg #[.int .i64 Wd, .slice A n c, .slice A' n' c'], .int .i64 one, .int .i64 two] w fun e w' => e = .returned (.tuple #[.int .i64 0, .int .i64 (bathErr Wd ss ds)]) ∧ Ext w w' := by
  have cB : ∀ W : World, IsBath W W.heap.size A n c A' n' c' ss ds → _ := fun W h => checkBath_ref (Wd := Wd) h
  have hX0 : BathAt (w.alloc (.cells #[.int .i64 Wd, .slice A n c, .slice A' n' c'] 25)) w.heap.size Wd A n c A' n' c' ss ds := BathAt.new hb
  have hE0 : Ext w (w.alloc (.cells #[.int .i64 Wd, .slice A n c, .slice A' n' c'] 25)) := ext_alloc w _
  clear hb
  generalize bathErr Wd ss ds = r at he cB ⊢
  have hne2 : (r != 0) = true := by simpa using he
  go_enter Try.func24, Try.ntmps24
  go_wp2_with fail
  refine (cB _ hX0.bath).mono ?_
  rintro e w1 ⟨rfl, hb1⟩
  have hX1 := hX0.ext hb1
  have hE1 := Lib.hid (hE0.trans hb1)
  clear hX0 hE0 hb1
  obtain ⟨q0, q1, q2⟩ := hX1.cells
  go_wp2_with fail
  refine (cB _ hX1.bath).mono ?_
  rintro e w2 ⟨rfl, hb2⟩
  go_wp2
  go_ret2
  exact ⟨rfl, hE1.out.trans hb2⟩

theorem beside_ref (one two : Int) (hb : IsBath w w.heap.size A n c A' n' c' ss ds) :
    Calls Try.prog 24 #[.agg #[.int .i64 Wd, .slice A n c, .slice A' n' c'], .int .i64 one, .int .i64 two] w fun e w' => e = .returned (.tuple #[.int .i64 (besideAns Wd ss ds one two).1, .int .i64 (besideAns Wd ss ds one two).2]) ∧ Ext w w' := by
  unfold besideAns
  by_cases he : bathErr Wd ss ds = 0
  · rw [if_pos he, ← hb.nds]
    by_cases hbad : min one two = max one two ∨ min one two < 0 ∨ (n' : Int) ≤ max one two
    · rw [if_pos hbad]
      exact beside_ref_bad one two he hb (by omega)
    · rw [if_neg hbad]
      obtain ⟨k, rfl⟩ := Int.eq_ofNat_of_zero_le (show 0 ≤ one by omega)
      obtain ⟨l, rfl⟩ := Int.eq_ofNat_of_zero_le (show 0 ≤ two by omega)
      have hnn := hb.nds
      rcases Nat.lt_trichotomy k l with h | h | h
      · rw [Int.min_eq_left (by omega), Int.max_eq_right (by omega), Int.toNat_natCast, Int.toNat_natCast, ← besideR_kind h (by omega)]
        exact beside_ref_ok k l k l he hb (by omega) (by omega) (by omega) (Int.min_eq_left (by omega)) (Int.max_eq_right (by omega)) h (by omega)
      · omega
      · rw [Int.min_eq_right (by omega), Int.max_eq_left (by omega), Int.toNat_natCast, Int.toNat_natCast, ← besideR_kind h (by omega), besideR_comm]
        exact beside_ref_ok k l l k he hb (by omega) (by omega) (by omega) (Int.min_eq_right (by omega)) (Int.max_eq_left (by omega)) h (by omega)
  · rw [if_neg he]
    exact beside_ref_err one two he hb
end
end Go.Proofs.Ytgdpgdnhhjclcaa

/- The reference's Alone, holds, Part. -/
namespace Go.Proofs.Ytgdpgdnhhjclcaa
open Go.RowKit Go.Shelf

section
variable {w : World} {Wd : Int} {A : Option Addr} {n c : Nat} {A' : Option Addr} {n' c' : Nat} {ss : List (Int × Int)} {ds : List (Int × Int × Int)}

theorem freeB_iff (sz : Nat → Int × Int) (s : Int) : freeB Wd ss sz n s = true ↔ ∀ k, k < n + 2 → apartB Wd ss sz s ((k : Int) - 2) = true := by
  unfold freeB
  rw [List.all_eq_true]
  constructor
  · intro h k hk
    exact h ⟨k, hk⟩ (List.mem_finRange _)
  · intro h k _
    exact h k.val k.isLt

set_option maxRecDepth 100000 in
set_option maxHeartbeats 2000000 in
theorem alone_ref (s : Nat) (h0 : Few Wd ss ds) (hb : IsBath w w.heap.size A n c A' n' c' ss ds) (hs : s < n) :
    Calls Try.prog 48 #[.agg #[.int .i64 Wd, .slice A n c, .slice A' n' c'], .int .i64 (s : Int)] w fun e w' => e = .returned (.bool (freeB Wd ss (sizes ds) n s)) ∧ Ext w w' := by
  have h00 := BathAt.new (Wd := Wd) hb
  have hn10 : n ≤ 10 := by have := h0.many.1; have := hb.nss; omega
  have cK : ∀ (x : Int), -2 ≤ x → x < n → (s : Int) ≠ x → ∀ W : World, IsBath W W.heap.size A n c A' n' c' ss ds → _ := fun x hx1 hx2 hne W h => kind_ref (Wd := Wd) (s : Int) x h0 h (by omega) (by omega) hx1 hx2 hne
  obtain ⟨ans, hans⟩ : ∃ ans, freeB Wd ss (sizes ds) n s = ans := ⟨_, rfl⟩
  rw [hans]
  have HANS := Lib.hid hans
  have CK := Lib.hid cK
  clear hb hans h0 cK
  go_enter Try.func48, Try.ntmps48
  go_wp2
  obtain ⟨w0, hw0⟩ : ∃ w0, w.alloc (.cells #[.int .i64 Wd, .slice A n c, .slice A' n' c'] 25) = w0 := ⟨_, rfl⟩
  have e0 : Ext w w0 := by rw [← hw0]; exact ext_alloc w _
  rw [hw0] at h00 ⊢
  have E0 := Lib.hid e0
  have H0 := Lib.hid h00
  clear hw0 e0 h00
  go_loopw [5] (fun i wr => ∃ j : Nat, j ≤ n + 2 ∧ i = .int .i64 ((j : Int) - 2) ∧ Hid (Ext w0 wr) ∧ Hid (∀ m, m < j → apartB Wd ss (sizes ds) s ((m : Int) - 2) = true)) (fun i _ => (n + 2) - (intOf i + 2).toNat)
  case atStart => exact ⟨0, Nat.zero_le _, rfl, Lib.hid (Ext.refl _), Lib.hid (fun m hm => absurd hm (by omega))⟩
  case round =>
    obtain ⟨j, hj, rfl, hB, hN⟩ := hrel
    have hx := H0.out.ext hB.out
    obtain ⟨q0, q1, q2⟩ := hx.cells
    by_cases hlt : j < n + 2
    · have hltz : (j : Int) - 2 < (n : Int) := by omega
      by_cases hjs : (j : Int) - 2 = (s : Int)
      · have e1 : ((j : Int) - 2 != (s : Int)) = false := by simp [hjs]
        have hN1 : Hid (∀ m, m < j + 1 → apartB Wd ss (sizes ds) s ((m : Int) - 2) = true) := Lib.hid fun m hm => by
          by_cases e : m = j
          · subst e
            simp [apartB, hjs]
          · exact hN.out m (by omega)
        clear hN hx hjs
        go_wp2
        go_roundw
        case measure => simp [intOf]; omega
        case rel => exact ⟨j + 1, by omega, by go_num, hB, hN1⟩
      · have e1 : ((j : Int) - 2 != (s : Int)) = true := by simp [hjs]
        have cC := CK.out ((j : Int) - 2) (by omega) hltz (fun e => hjs e.symm) _ hx.bath
        obtain ⟨kd, hkd⟩ : ∃ kd, kindOf Wd ss (sizes ds) s ((j : Int) - 2) = kd := ⟨_, rfl⟩
        rw [hkd] at cC
        by_cases hk0 : kd = 0
        · subst hk0
          have hN1 : Hid (∀ m, m < j + 1 → apartB Wd ss (sizes ds) s ((m : Int) - 2) = true) := Lib.hid fun m hm => by
            by_cases e : m = j
            · subst e
              simp [apartB, hkd]
            · exact hN.out m (by omega)
          clear hN hx hjs hkd
          go_wp2_with (go_at_call 71; refine cC.mono ?_; rintro e w2 ⟨rfl, hb2⟩)
          go_roundw
          case measure => simp [intOf]; omega
          case rel => exact ⟨j + 1, by omega, by go_num, Lib.hid (hB.out.trans hb2), hN1⟩
        · have e2 : (kd != 0) = true := by simp [hk0]
          obtain rfl : ans = false := by
            rw [← HANS.out, Bool.eq_false_iff]
            intro hf
            have := (freeB_iff _ _).1 hf j hlt
            simp only [apartB, Bool.or_eq_true, decide_eq_true_eq] at this
            rcases this with h | h
            · exact hjs h
            · exact hk0 (hkd.symm.trans h)
          clear hN hx hjs hkd
          go_wp2_with (go_at_call 71; refine cC.mono ?_; rintro e w2 ⟨rfl, hb2⟩)
          go_ret
          exact ⟨rfl, E0.out.trans (hB.out.trans hb2)⟩
    · have hltz : ¬ (j : Int) - 2 < (n : Int) := by omega
      obtain rfl : ans = true := by
        rw [← HANS.out]
        exact (freeB_iff _ _).2 fun k hk => hN.out k (by omega)
      clear hx
      go_wp2
      go_ret
      exact ⟨rfl, E0.out.trans hB.out⟩

/-- Whether two places hold together. -/
def holdsB (Wd : Int) (ss : List (Int × Int)) (ds : List (Int × Int × Int)) (one two : Int) (sure : Bool) : Bool := decide (kindOf Wd ss (sizes ds) one two = 2) || (!sure && decide (kindOf Wd ss (sizes ds) one two = 1))

set_option maxHeartbeats 1000000 in
theorem holds_ref (one two : Int) (sure : Bool) (h0 : Few Wd ss ds) (hb : IsBath w w.heap.size A n c A' n' c' ss ds) (h1 : -2 ≤ one) (h1' : one < n) (h2 : -2 ≤ two) (h2' : two < n) (hne : one ≠ two) :
    Calls Try.prog 91 #[.agg #[.int .i64 Wd, .slice A n c, .slice A' n' c'], .int .i64 one, .int .i64 two, .bool sure] w fun e w' => e = .returned (.bool (holdsB Wd ss ds one two sure)) ∧ Ext w w' := by
  have hX0 : BathAt (w.alloc (.cells #[.int .i64 Wd, .slice A n c, .slice A' n' c'] 25)) w.heap.size Wd A n c A' n' c' ss ds := BathAt.new hb
  have hE0 : Ext w (w.alloc (.cells #[.int .i64 Wd, .slice A n c, .slice A' n' c'] 25)) := ext_alloc w _
  have cK : ∀ W : World, IsBath W W.heap.size A n c A' n' c' ss ds → _ := fun W h => kind_ref (Wd := Wd) one two h0 h h1 h1' h2 h2' hne
  unfold holdsB
  generalize kindOf Wd ss (sizes ds) one two = kd at cK ⊢
  clear hb h0 h1 h1' h2 h2' hne
  by_cases hk : kd = 2
  · subst hk
    go_enter Try.func91, Try.ntmps91
    go_wp2_with fail
    refine (cK _ hX0.bath).mono ?_
    rintro e w1 ⟨rfl, hb1⟩
    go_wp2
    go_ret
    exact ⟨ret_bool (by simp), hE0.trans hb1⟩
  · have e1 : (kd == 2) = false := by simp [hk]
    cases sure with
    | true =>
      go_enter Try.func91, Try.ntmps91
      go_wp2_with fail
      refine (cK _ hX0.bath).mono ?_
      rintro e w1 ⟨rfl, hb1⟩
      go_wp2
      go_ret
      exact ⟨ret_bool (by simp [hk]), hE0.trans hb1⟩
    | false =>
      have HK := Lib.hid hk
      clear hk
      go_enter Try.func91, Try.ntmps91
      go_wp2_with fail
      refine (cK _ hX0.bath).mono ?_
      rintro e w1 ⟨rfl, hb1⟩
      have hX1 := hX0.ext hb1
      have hE1 := Lib.hid (hE0.trans hb1)
      clear hX0 hE0 hb1
      obtain ⟨q0, q1, q2⟩ := hX1.cells
      go_wp2_with fail
      refine (cK _ hX1.bath).mono ?_
      rintro e w2 ⟨rfl, hb2⟩
      have HE := Lib.hid (hE1.out.trans hb2)
      clear hX1 hE1 hb2 cK q0 q1 q2
      by_cases hk1 : kd = 1
      · have e2 : (kd == 1) = true := by simp [hk1]
        go_wp2
        go_ret
        exact ⟨ret_bool (by simp [hk1]), HE.out⟩
      · have e2 : (kd == 1) = false := by simp [hk1]
        go_wp2
        go_ret
        exact ⟨ret_bool (by simp [hk1, HK.out]), HE.out⟩

theorem IsBath.part (h : IsBath w w.heap.size A n c A' n' c' ss ds) {k : Nat} (hk : k ≤ n') (hn : A' ≠ none ∨ k = 0) : IsBath w w.heap.size A n c A' k c' ss (ds.take k) :=
  ⟨h.nss, by rw [List.length_take]; have := h.nds; omega, h.nle, by have := h.nle'; omega, h.cap, by have := h.cap'; omega, h.hss, by
    rcases h.hds with e | ⟨b, off, e, hlt, hc⟩
    · exact .inl (by rw [e]; simp)
    · refine .inr ⟨b, off, e, hlt, fun j x hj i v hi => hc j x ?_ i v hi⟩
      rw [List.getElem?_take] at hj
      split at hj
      · exact hj
      · cases hj⟩
end
end Go.Proofs.Ytgdpgdnhhjclcaa

/- The reference's Part; and what its First comes to. -/
namespace Go.Proofs.Ytgdpgdnhhjclcaa
open Go.RowKit Go.Shelf

theorem info62 : (Try.prog.info? 62).map (fun i => i.size) = some 3 := by kernel_rfl
theorem run_head (g off n cap k : Nat) (hk : k ≤ cap) (w : World) : (Instr.slice 23 (.slice (some ⟨g, off, none⟩) n cap) none (some (.int .i64 (k : Int))) none).run Try.prog w = .ok (.slice (some ⟨g, off, none⟩) k cap) w := by
  obtain ⟨i0, hi, hz⟩ := Option.map_eq_some_iff.1 info62
  simp [Instr.slice, Instr.sliceBounds, Instr.sliceBound, run_underlying Try.underlying23, asIntOf, sizeOf, typeInfo, hi, hz, Addr.add_lit, Result.andThen]
  first
    | (rw [if_pos (by omega)]; simp)
    | (split <;> simp_all <;> omega)

section
variable {w : World} {Wd : Int} {b off : Nat} {A : Option Addr} {n c : Nat} {n' c' : Nat} {ss : List (Int × Int)} {ds : List (Int × Int × Int)}

set_option maxRecDepth 100000 in
set_option maxHeartbeats 1000000 in
theorem part_ref (k : Nat) (hk : k ≤ c') (w : World) :
    Calls Try.prog 83 #[.agg #[.int .i64 Wd, .slice A n c, .slice (some ⟨b, off, none⟩) n' c'], .int .i64 (k : Int)] w fun e w' => e = .returned (.agg #[.int .i64 Wd, .slice A n c, .slice (some ⟨b, off, none⟩) k c']) ∧ Ext w w' := by
  have hsl := run_head b off n' c' k hk
  go_enter Try.func83, Try.ntmps83
  go_wp2
  exact bodyPost_ret (v := .agg #[.int .i64 Wd, .slice A n c, .slice (some ⟨b, off, none⟩) k c']) (by simp [results, Try.f83, go_sem]) rfl ⟨rfl, (ext_alloc _ _).trans (ext_alloc _ _)⟩

theorem bathErr_take (h : bathErr Wd ss ds = 0) (k : Nat) : bathErr Wd ss (ds.take k) = 0 := by
  obtain ⟨h1, h2, h3, h4, h5⟩ := bath_ok h
  have hall : (ds.take k).all (dropOk ss.length) = true := List.all_eq_true.2 fun x hx => List.all_eq_true.1 h5 x (List.mem_of_mem_take hx)
  rw [bathErr_more h1, if_pos ⟨h2.1, by rw [List.length_take]; omega⟩, if_pos h3, if_pos h4, if_pos hall]
end

/-- The least number from 0 to len of which p holds, or len + 1. -/
def leastTo (p : Nat → Bool) (len L : Nat) : Prop := (L = len + 1 ∨ (L ≤ len ∧ p L = true)) ∧ ∀ m, m < L → m ≤ len → p m = false
theorem leastTo_findIdx {p : Nat → Bool} {len L : Nat} (h0 : p 0 = false) (h : leastTo p len L) : L = (List.range len).findIdx (fun j => p (j + 1)) + 1 := by
  obtain ⟨h1, h2⟩ := h
  have hL0 : L ≠ 0 := by
    rintro rfl
    rcases h1 with h1 | h1
    · omega
    · rw [h0] at h1
      cases h1.2
  rcases h1 with rfl | ⟨hle, hp⟩
  · rw [findIdx_miss _ _ (fun j hj => by rw [List.getElem_range]; rw [List.length_range] at hj; exact h2 _ (by omega) (by omega)), List.length_range]
  · have hl : L - 1 < (List.range len).length := by rw [List.length_range]; omega
    rw [findIdx_hit _ _ (L - 1) hl (fun j hj => by rw [List.getElem_range]; exact h2 _ (by omega) (by omega)) (by rw [List.getElem_range, show L - 1 + 1 = L from by omega]; exact hp)]
    omega
end Go.Proofs.Ytgdpgdnhhjclcaa

/- The reference's First: the walk. -/
namespace Go.Proofs.Ytgdpgdnhhjclcaa
open Go.RowKit Go.Shelf

/-- The kind of two places after the first k drops. -/
def kindK (Wd : Int) (ss : List (Int × Int)) (ds : List (Int × Int × Int)) (one two : Int) (k : Nat) : Int := kindOf Wd ss (sizes (ds.take k)) one two
/-- Both numbers of drops, by the least ones. -/
def firstR (Wd : Int) (ss : List (Int × Int)) (ds : List (Int × Int × Int)) (one two : Int) (lo hi : Nat) : Prop :=
  leastTo (fun k => decide (1 ≤ kindK Wd ss ds one two k)) ds.length lo ∧ leastTo (fun k => decide (kindK Wd ss ds one two k = 2)) ds.length hi

/-- What was found when all numbers from j on have been looked at. -/
def foundFrom (p : Nat → Bool) (len j L : Nat) : Prop := ((L = len + 1) ∨ (j ≤ L ∧ L ≤ len ∧ p L = true)) ∧ ∀ m, j ≤ m → m < L → m ≤ len → p m = false
theorem foundFrom_start (p : Nat → Bool) (len : Nat) : foundFrom p len (len + 1) (len + 1) := ⟨.inl rfl, fun m h1 h2 h3 => by omega⟩
theorem foundFrom_yes {p : Nat → Bool} {len j : Nat} (hj : j ≤ len) (hp : p j = true) : foundFrom p len j j := ⟨.inr ⟨Nat.le_refl _, hj, hp⟩, fun m h1 h2 _ => by omega⟩
theorem foundFrom_no {p : Nat → Bool} {len j L : Nat} (h : foundFrom p len (j + 1) L) (hp : p j = false) : foundFrom p len j L :=
  ⟨h.1.imp id fun ⟨a, b, c⟩ => ⟨by omega, b, c⟩, fun m h1 h2 h3 => by
    by_cases e : m = j
    · subst e; exact hp
    · exact h.2 m (by omega) h2 h3⟩
theorem foundFrom_end {p : Nat → Bool} {len L : Nat} (h : foundFrom p len 0 L) : leastTo p len L := ⟨h.1.imp id fun ⟨_, b, c⟩ => ⟨b, c⟩, fun m h1 h2 => h.2 m (Nat.zero_le _) h1 h2⟩

theorem row_set0 {W : World} {g : Nat} {a b v : Value} (h : W.heap[g]? = some (.cells #[a, b] 29 (0, 0))) : (W.setCell ⟨g, 0, none⟩ v).heap[g]? = some (.cells #[v, b] 29 (0, 0)) := by
  simp [World.setCell, Array.getElem?_modify, h]
theorem row_set1 {W : World} {g : Nat} {a b v : Value} (h : W.heap[g]? = some (.cells #[a, b] 29 (0, 0))) : (W.setCell ⟨g, 1, none⟩ v).heap[g]? = some (.cells #[a, v] 29 (0, 0)) := by
  simp [World.setCell, Array.getElem?_modify, h]

section
variable {w : World} {Wd : Int} {A : Option Addr} {n c : Nat} {A' : Option Addr} {n' c' : Nat} {ss : List (Int × Int)} {ds : List (Int × Int × Int)}

theorem kindK_zero {one two : Int} (he : forErr Wd ss ds one two = 0) : kindK Wd ss ds one two 0 = 0 := by
  obtain ⟨h0, h1, h2, h3⟩ := forErr_ok he
  unfold kindK kindOf
  have hm : ∀ f : Int × Int → Int, f (0, 0) = 0 → meetB Wd ss (fun i => f (sizes (ds.take 0) i)) one two = false := fun f hf => by
    have hs : (fun i => f (sizes (ds.take 0) i)) = fun _ => 0 := by funext i; simp [sizes, hf]
    rw [hs]
    unfold meetB
    by_cases ha : max one two < 0
    · rw [if_pos ha]
    · rw [if_neg ha]
      by_cases hb : min one two < 0
      · rw [if_pos hb]
        obtain ⟨X, Y, hXY⟩ : ∃ X Y, ss.getD (max one two).toNat (0, 0) = (X, Y) := ⟨_, _, rfl⟩
        have hbd := spot_bd (bath_few h0) (i := (max one two).toNat) (by omega) hXY
        rw [hXY]
        simp only [decide_eq_false_iff_not]
        split
        · have := Int.mul_le_mul (a := 1) (b := 1) (c := X) (d := X) (by omega) (by omega) (by omega) (by omega)
          omega
        · have := Int.mul_le_mul (a := 1) (b := 1) (c := Wd - X) (d := Wd - X) (by omega) (by omega) (by omega) (by omega)
          omega
      · rw [if_neg hb]
        simp [reachB]
  rw [hm (·.1) rfl, hm (·.2) rfl]
  simp

theorem firstAns_of {one two : Int} {lo hi : Nat} (he : forErr Wd ss ds one two = 0) (hk : kindOf Wd ss (sizes ds) one two ≠ 0) (h : firstR Wd ss ds one two lo hi) : firstAns Wd ss ds one two = (((lo : Int), (hi : Int)), 0) := by
  obtain ⟨h0, h1, h2, h3⟩ := forErr_ok he
  have hz := kindK_zero he
  have e1 := leastTo_findIdx (by simp [hz]) h.1
  have e2 := leastTo_findIdx (by simp [hz]) h.2
  unfold firstAns
  rw [if_pos he, if_neg hk]
  have q : ∀ f g : (Nat → Int × Int) → Bool, (∀ k, f (sizes (ds.take (k + 1))) = g (sizes (ds.take (k + 1)))) → (prefixes ds ds.length).findIdx f = (List.range ds.length).findIdx fun j => g (sizes (ds.take (j + 1))) := fun f g hfg => by
    unfold prefixes
    rw [List.findIdx_map]
    congr 1
    funext j
    exact hfg j
  have hmono : ∀ k, meetB Wd ss (fun i => (sizes (ds.take k) i).1) one two = true → meetB Wd ss (fun i => (sizes (ds.take k) i).2) one two = true := fun k =>
    meetB_mono Wd ss _ _ (fun i => (sizes_bd (ds.take k) (drops_bd h0 k) i).1) (fun i => (sizes_bd (ds.take k) (drops_bd h0 k) i).2.1) one two
  have f1 : (prefixes ds ds.length).findIdx (fun z => meetB Wd ss (fun i => (z i).2) one two) = (List.range ds.length).findIdx fun j => decide (1 ≤ kindK Wd ss ds one two (j + 1)) :=
    q _ (fun z => decide (1 ≤ kindOf Wd ss z one two)) fun k => by
      unfold kindOf
      have := hmono (k + 1)
      cases ha : meetB Wd ss (fun i => (sizes (ds.take (k + 1)) i).1) one two <;> cases hb : meetB Wd ss (fun i => (sizes (ds.take (k + 1)) i).2) one two <;> simp_all
  have f2 : (prefixes ds ds.length).findIdx (fun z => meetB Wd ss (fun i => (z i).1) one two) = (List.range ds.length).findIdx fun j => decide (kindK Wd ss ds one two (j + 1) = 2) :=
    q _ (fun z => decide (kindOf Wd ss z one two = 2)) fun k => by
      unfold kindOf
      cases ha : meetB Wd ss (fun i => (sizes (ds.take (k + 1)) i).1) one two <;> cases hb : meetB Wd ss (fun i => (sizes (ds.take (k + 1)) i).2) one two <;> simp
  rw [f1, f2, e1, e2]
  simp

set_option maxRecDepth 100000 in
set_option maxHeartbeats 4000000 in
theorem first26_ok (one two : Int) (hb : IsBath w w.heap.size A n c A' n' c' ss ds) (he : forErr Wd ss ds one two = 0) :
    Calls Try.prog 26 #[.agg #[.int .i64 Wd, .slice A n c, .slice A' n' c'], .int .i64 one, .int .i64 two] w fun e w' => e = .returned (.tuple #[.agg #[.int .i64 (firstAns Wd ss ds one two).1.1, .int .i64 (firstAns Wd ss ds one two).1.2], .int .i64 (firstAns Wd ss ds one two).2]) ∧ Ext w w' := by
  obtain ⟨h0, h12, h2, h3⟩ := forErr_ok he
  rw [← hb.nss] at h2 h3
  have cP : ∀ W : World, IsBath W W.heap.size A n c A' n' c' ss ds → _ := fun W h => places_ref (Wd := Wd) one two h
  rw [he] at cP
  have cK : ∀ W : World, IsBath W W.heap.size A n c A' n' c' ss ds → _ := fun W h => kind_ref (Wd := Wd) one two (bath_few h0) h h2.1 h2.2 h3.1 h3.2 h12
  have hX0 : BathAt ((w.alloc (.cells #[.int .i64 Wd, .slice A n c, .slice A' n' c'] 25)).alloc (.cells #[.int .i64 0, .int .i64 0] 29)) w.heap.size Wd A n c A' n' c' ss ds := (BathAt.new hb).ext (ext_alloc _ _)
  have hE0 : Ext w ((w.alloc (.cells #[.int .i64 Wd, .slice A n c, .slice A' n' c'] 25)).alloc (.cells #[.int .i64 0, .int .i64 0] 29)) := (ext_alloc w _).trans (ext_alloc _ _)
  have hR0 : ((w.alloc (.cells #[.int .i64 Wd, .slice A n c, .slice A' n' c'] 25)).alloc (.cells #[.int .i64 0, .int .i64 0] 29)).heap[w.heap.size + 1]? = some (.cells #[.int .i64 0, .int .i64 0] 29 (0, 0)) := row_last _ _ _ (by simp)
  have hfew := (bath_ok h0).2.1.2
  have hnd := hb.nds
  have hcap := hb.cap'
  have hmaj := hb.hds
  by_cases hk0 : kindOf Wd ss (sizes ds) one two = 0
  · have ha : firstAns Wd ss ds one two = ((0, 0), 17) := by unfold firstAns; rw [if_pos he, if_pos hk0]
    rw [ha]
    rw [hk0] at cK
    clear ha hk0 he h0 h12 h2 h3 hb hfew hnd hcap hmaj
    go_enter Try.func26, Try.ntmps26
    go_wp2_with fail
    refine (cP _ hX0.bath).mono ?_
    rintro e w1 ⟨rfl, hb1⟩
    have hX1 := hX0.ext hb1
    have hE1 := hE0.trans hb1
    have hR1 := row_ext hR0 hb1
    clear hX0 hE0 hR0 hb1
    obtain ⟨q0, q1, q2⟩ := hX1.cells
    go_wp2_with fail
    refine (cK _ hX1.bath).mono ?_
    rintro e w2 ⟨rfl, hb2⟩
    have hE2 := hE1.trans hb2
    have hR2 := Lib.hid (row_ext hR1 hb2)
    clear hX1 hE1 hR1 hb2 q0 q1 q2 cP cK
    go_wp2_with (refine wpList_store29 (.tmp 6) (.tmp 26) rfl rfl (w.heap.size + 1) rfl 0 0 0 0 rfl hR2.out ?_)
    refine bodyPost_ret (v := .tuple #[.agg #[.int .i64 0, .int .i64 0], .int .i64 17]) (results_rng_tmp rfl _ _ (w.heap.size + 1) 0 0 _ rfl rfl (row_setRow _ _ _ _ _ _ hR2.out)) rfl ⟨rfl, below_setRow hE2 (by omega) _⟩
  · have hsome : ∃ b off, A' = some ⟨b, off, none⟩ := by
      rcases hmaj with e | ⟨b, off, e, _⟩
      · exfalso
        have := kindK_zero he
        rw [kindK, e] at this
        rw [e] at hk0
        exact hk0 (by simpa using this)
      · exact ⟨b, off, e⟩
    obtain ⟨b, off, rfl⟩ := hsome
    have hn40 : n' ≤ 40 := by omega
    have hans : ∀ lo hi : Nat, firstR Wd ss ds one two lo hi → firstAns Wd ss ds one two = (((lo : Int), (hi : Int)), 0) := fun lo hi h => firstAns_of he hk0 h
    have HANS := Lib.hid hans
    have hkz : (kindOf Wd ss (sizes ds) one two == 0) = false := by simp [hk0]
    generalize kindOf Wd ss (sizes ds) one two = kd at cK hkz
    have cQ : ∀ (m : Nat), m ≤ n' → ∀ W : World, IsBath W W.heap.size A n c (some ⟨b, off, none⟩) n' c' ss ds → Calls Try.prog 71 #[.agg #[.int .i64 Wd, .slice A n c, .slice (some ⟨b, off, none⟩) m c'], .int .i64 one, .int .i64 two] W fun e w' => e = .returned (.int .i64 (kindK Wd ss ds one two m)) ∧ Ext W w' :=
      fun m hm W h => kind_ref (Wd := Wd) one two (bath_few (bathErr_take h0 m)) (h.part hm (.inl (by simp))) h2.1 h2.2 h3.1 h3.2 h12
    have CQ := Lib.hid cQ
    clear hk0 hans cQ he h0 h12 h2 h3 hb hfew hmaj
    have HND := Lib.hid hnd
    clear hnd
    go_enter Try.func26, Try.ntmps26
    go_wp2_with fail
    refine (cP _ hX0.bath).mono ?_
    rintro e w1 ⟨rfl, hb1⟩
    have hX1 := hX0.ext hb1
    have hE1 := hE0.trans hb1
    have hR1 := row_ext hR0 hb1
    clear hX0 hE0 hR0 hb1
    obtain ⟨q0, q1, q2⟩ := hX1.cells
    go_wp2_with fail
    refine (cK _ hX1.bath).mono ?_
    rintro e w2 ⟨rfl, hb2⟩
    have HX2 := Lib.hid (hX1.ext hb2)
    have HE2 := Lib.hid (hE1.trans hb2)
    have HR2 := Lib.hid (row_ext hR1 hb2)
    clear hX1 hE1 hR1 hb2 q0 q1 q2 cP cK
    obtain ⟨q0, q1, q2⟩ := HX2.out.cells
    go_upto_region 6 with fail
    obtain ⟨w3, hW, hg3, hE3⟩ : ∃ W, w2.alloc (.cells #[.int .i64 ((n' : Int) + 1), .int .i64 ((n' : Int) + 1)] 29) = W ∧ W.heap[w2.heap.size]? = some (.cells #[.int .i64 ((n' + 1 : Nat) : Int), .int .i64 ((n' + 1 : Nat) : Int)] 29 (0, 0)) ∧ Ext w2 W := ⟨_, rfl, by rw [show ((n' + 1 : Nat) : Int) = (n' : Int) + 1 from by omega]; exact row_last _ _ _ rfl, ext_alloc _ _⟩
    rw [hW]
    clear hW q0 q1 q2 hkz
    obtain ⟨q0, q1, q2⟩ := (HX2.out.ext hE3).cells
    obtain ⟨g, hg⟩ : ∃ g, w2.heap.size = g := ⟨_, rfl⟩
    rw [hg] at hg3 ⊢
    have HG := Lib.hid hg
    have HG3 := Lib.hid hg3
    have HE3 := Lib.hid hE3
    clear hg hg3 hE3
    go_wp2
    clear q0 q1 q2
    go_loopw [9, 10] (fun i _ wr => ∃ j L H : Nat, j ≤ n' + 1 ∧ i = .int .i64 ((j : Int) - 1) ∧ Hid (Ext w2 wr) ∧ Hid (wr.heap[g]? = some (.cells #[.int .i64 (L : Int), .int .i64 (H : Int)] 29 (0, 0))) ∧ Hid (foundFrom (fun k => decide (1 ≤ kindK Wd ss ds one two k)) n' j L) ∧ Hid (foundFrom (fun k => decide (kindK Wd ss ds one two k = 2)) n' j H)) (fun i _ _ => (intOf i + 1).toNat)
    case atStart => exact ⟨n' + 1, n' + 1, n' + 1, Nat.le_refl _, by go_num, HE3, HG3, Lib.hid (foundFrom_start _ _), Lib.hid (foundFrom_start _ _)⟩
    case round =>
      obtain ⟨j, L, H, hj, rfl, hB, hR, hL, hH⟩ := hrel
      have hx := HX2.out.ext hB.out
      obtain ⟨q0, q1, q2⟩ := hx.cells
      match j, hj, hL, hH with
      | 0, _, hL, hH =>
        have f1 := HANS.out L H ⟨by rw [← HND.out]; exact foundFrom_end hL.out, by rw [← HND.out]; exact foundFrom_end hH.out⟩
        have FA := Lib.hid f1
        have hR2 := Lib.hid (row_ext HR2.out hB.out)
        clear f1 hL hH hx q0 q1 q2 CQ
        have l0 := cell_of_row _ _ 0 _ _ _ hR.out
        have l1 := cell_of_row _ _ 1 _ _ _ hR.out
        simp at l0 l1
        have HB := hB
        go_wp2_with (refine wpList_store29 (.tmp 6) (.tmp 57) rfl rfl (w.heap.size + 1) rfl _ _ 0 0 rfl hR2.out ?_)
        exact bodyPost_ret (v := .tuple #[.agg #[.int .i64 (L : Int), .int .i64 (H : Int)], .int .i64 0]) (results_rng_tmp rfl _ _ (w.heap.size + 1) _ _ _ rfl rfl (row_setRow _ _ _ _ _ _ hR2.out)) rfl ⟨by rw [FA.out], below_setRow (HE2.out.trans HB.out) (by omega) _⟩
      | m + 1, hj, hL, hH =>
        have hm1 : ((m + 1 : Nat) : Int) - 1 = (m : Int) := by omega
        rw [hm1]
        have cPt := part_ref (Wd := Wd) (A := A) (n := n) (c := c) (b := b) (off := off) (n' := n') (c' := c') m (by omega) wr
        have cQ2 := fun (W : World) (h : Ext wr W) => CQ.out m (by omega) W (hx.ext h).bath
        obtain ⟨kd2, hkd⟩ : ∃ k, kindK Wd ss ds one two m = k := ⟨_, rfl⟩
        have hbd : 0 ≤ kd2 ∧ kd2 ≤ 2 := by rw [← hkd]; exact kindOf_bd _ _ _ _ _
        rw [hkd] at cQ2
        have HKD := Lib.hid hkd
        have hgl : g < wr.heap.size := (Array.getElem?_eq_some_iff.1 hR.out).1
        clear hx hkd
        rcases (show kd2 = 0 ∨ kd2 = 1 ∨ kd2 = 2 by omega) with h | h | h
        · obtain rfl : kd2 = 0 := h
          clear hbd
          go_wp2_with fail
          refine cPt.mono ?_
          rintro e v1 ⟨rfl, hb1⟩
          go_wp2_with fail
          refine (cQ2 v1 hb1).mono ?_
          rintro e v2 ⟨rfl, hb2⟩
          have hr2 := row_ext hR.out (Ext.trans hb1 hb2)
          have f0 : v2.frozen? ⟨g, 0, none⟩ = false := by simp [World.frozen?, hr2]
          have f1 : v2.frozen? ⟨g, 1, none⟩ = false := by simp [World.frozen?, hr2]
          have l0 := cell_of_row _ _ 0 _ _ _ hr2
          have l1 := cell_of_row _ _ 1 _ _ _ hr2
          simp at l0 l1
          have HR2' := Lib.hid hr2
          have hEv := Lib.hid (hB.out.trans (Ext.trans hb1 hb2))
          clear hr2 hb1 hb2 cPt cQ2 q0 q1 q2
          go_wp2
          go_roundw
          case measure => simp [intOf]
          case rel => exact ⟨m, L, H, by omega, by go_num, hEv, Lib.hid (HR2'.out), Lib.hid (foundFrom_no hL.out (by simp [HKD.out])), Lib.hid (foundFrom_no hH.out (by simp [HKD.out]))⟩
        · obtain rfl : kd2 = 1 := h
          clear hbd
          go_wp2_with fail
          refine cPt.mono ?_
          rintro e v1 ⟨rfl, hb1⟩
          go_wp2_with fail
          refine (cQ2 v1 hb1).mono ?_
          rintro e v2 ⟨rfl, hb2⟩
          have hr2 := row_ext hR.out (Ext.trans hb1 hb2)
          have f0 : v2.frozen? ⟨g, 0, none⟩ = false := by simp [World.frozen?, hr2]
          have f1 : v2.frozen? ⟨g, 1, none⟩ = false := by simp [World.frozen?, hr2]
          have l0 := cell_of_row _ _ 0 _ _ _ hr2
          have l1 := cell_of_row _ _ 1 _ _ _ hr2
          simp at l0 l1
          have HR2' := Lib.hid hr2
          have hEv := Lib.hid (hB.out.trans (Ext.trans hb1 hb2))
          clear hr2 hb1 hb2 cPt cQ2 q0 q1 q2
          go_wp2
          go_roundw
          case measure => simp [intOf]
          case rel => exact ⟨m, m, H, by omega, by go_num, Lib.hid (Below.setCell hEv.out (p := ⟨g, 0, none⟩) (by show w2.heap.size ≤ g; rw [HG.out]; exact Nat.le_refl _) _), Lib.hid (row_set0 HR2'.out), Lib.hid (foundFrom_yes (by omega) (by simp [HKD.out])), Lib.hid (foundFrom_no hH.out (by simp [HKD.out]))⟩
        · obtain rfl : kd2 = 2 := h
          clear hbd
          go_wp2_with fail
          refine cPt.mono ?_
          rintro e v1 ⟨rfl, hb1⟩
          go_wp2_with fail
          refine (cQ2 v1 hb1).mono ?_
          rintro e v2 ⟨rfl, hb2⟩
          have hr2 := row_ext hR.out (Ext.trans hb1 hb2)
          have f0 : v2.frozen? ⟨g, 0, none⟩ = false := by simp [World.frozen?, hr2]
          have f1 : v2.frozen? ⟨g, 1, none⟩ = false := by simp [World.frozen?, hr2]
          have l0 := cell_of_row _ _ 0 _ _ _ hr2
          have l1 := cell_of_row _ _ 1 _ _ _ hr2
          simp at l0 l1
          have HR2' := Lib.hid hr2
          have hEv := Lib.hid (hB.out.trans (Ext.trans hb1 hb2))
          clear hr2 hb1 hb2 cPt cQ2 q0 q1 q2
          go_wp2
          go_roundw
          case measure => simp [intOf]
          case rel => exact ⟨m, m, m, by omega, by go_num, Lib.hid (Below.setCell (Below.setCell hEv.out (p := ⟨g, 0, none⟩) (by show w2.heap.size ≤ g; rw [HG.out]; exact Nat.le_refl _) _) (p := ⟨g, 1, none⟩) (by show w2.heap.size ≤ g; rw [HG.out]; exact Nat.le_refl _) _), Lib.hid (row_set1 (row_set0 HR2'.out)), Lib.hid (foundFrom_yes (by omega) (by simp [HKD.out])), Lib.hid (foundFrom_yes (by omega) (by simp [HKD.out]))⟩
set_option maxRecDepth 100000 in
set_option maxHeartbeats 1000000 in
theorem first26_err (one two : Int) (he : forErr Wd ss ds one two ≠ 0) (hb : IsBath w w.heap.size A n c A' n' c' ss ds) :
    Calls Try.prog 26 #[.agg #[.int .i64 Wd, .slice A n c, .slice A' n' c'], .int .i64 one, .int .i64 two] w fun e w' => e = .returned (.tuple #[.agg #[.int .i64 0, .int .i64 0], .int .i64 (forErr Wd ss ds one two)]) ∧ Ext w w' := by
  have cP : ∀ W : World, IsBath W W.heap.size A n c A' n' c' ss ds → _ := fun W h => places_ref (Wd := Wd) one two h
  have hX0 : BathAt ((w.alloc (.cells #[.int .i64 Wd, .slice A n c, .slice A' n' c'] 25)).alloc (.cells #[.int .i64 0, .int .i64 0] 29)) w.heap.size Wd A n c A' n' c' ss ds := (BathAt.new hb).ext (ext_alloc _ _)
  have hE0 : Ext w ((w.alloc (.cells #[.int .i64 Wd, .slice A n c, .slice A' n' c'] 25)).alloc (.cells #[.int .i64 0, .int .i64 0] 29)) := (ext_alloc w _).trans (ext_alloc _ _)
  have hR0 : ((w.alloc (.cells #[.int .i64 Wd, .slice A n c, .slice A' n' c'] 25)).alloc (.cells #[.int .i64 0, .int .i64 0] 29)).heap[w.heap.size + 1]? = some (.cells #[.int .i64 0, .int .i64 0] 29 (0, 0)) := row_last _ _ _ (by simp)
  clear hb
  generalize forErr Wd ss ds one two = r at he cP ⊢
  have hne2 : (r != 0) = true := by simpa using he
  clear he
  go_enter Try.func26, Try.ntmps26
  go_wp2_with fail
  refine (cP _ hX0.bath).mono ?_
  rintro e w1 ⟨rfl, hb1⟩
  have hX1 := hX0.ext hb1
  have hE1 := hE0.trans hb1
  have hR1 := row_ext hR0 hb1
  clear hX0 hE0 hR0 hb1
  obtain ⟨q0, q1, q2⟩ := hX1.cells
  go_wp2_with fail
  refine (cP _ hX1.bath).mono ?_
  rintro e w2 ⟨rfl, hb2⟩
  have hE2 := hE1.trans hb2
  have hR2 := Lib.hid (row_ext hR1 hb2)
  clear hX1 hE1 hR1 hb2 q0 q1 q2 cP
  go_wp2_with (refine wpList_store29 (.tmp 6) (.tmp 16) rfl rfl (w.heap.size + 1) rfl 0 0 0 0 rfl hR2.out ?_)
  refine bodyPost_ret (v := .tuple #[.agg #[.int .i64 0, .int .i64 0], .int .i64 r]) (results_rng_tmp rfl _ _ (w.heap.size + 1) 0 0 _ rfl rfl (row_setRow _ _ _ _ _ _ hR2.out)) rfl ⟨rfl, below_setRow hE2 (by omega) _⟩

/-- The reference's First. -/
theorem firstAns_ref (one two : Int) (hb : IsBath w w.heap.size A n c A' n' c' ss ds) :
    Calls Try.prog 26 #[.agg #[.int .i64 Wd, .slice A n c, .slice A' n' c'], .int .i64 one, .int .i64 two] w fun e w' => e = .returned (.tuple #[.agg #[.int .i64 (firstAns Wd ss ds one two).1.1, .int .i64 (firstAns Wd ss ds one two).1.2], .int .i64 (firstAns Wd ss ds one two).2]) ∧ Ext w w' := by
  by_cases he : forErr Wd ss ds one two = 0
  · exact first26_ok one two hb he
  · have ha : firstAns Wd ss ds one two = ((0, 0), forErr Wd ss ds one two) := by unfold firstAns; rw [if_neg he]
    rw [ha]
    exact first26_err one two he hb
end
end Go.Proofs.Ytgdpgdnhhjclcaa
