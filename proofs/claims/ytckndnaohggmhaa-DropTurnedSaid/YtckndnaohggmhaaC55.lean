/- Texts of the package drop, joined: RoomLaw. -/
import Derived.Test.YtckndnaohggmhaaC19
import Derived.Test.YtckndnaohggmhaaC34
import Derived.Test.YtckndnaohggmhaaC50
/- DropRoom's helper alone; a bath with one drop more is valid, and what touches on it. -/
namespace Go.Proofs.Ytckndnaohggmhaa
open Go.RowKit Go.Shelf

theorem fine_add {Wd : Int} {ss : List (Int × Int)} {ds : List (Int × Int × Int)} (h : bathErr Wd ss ds = 0) (s : Nat) (k : Int) (hs : s < ss.length) (h1 : 1 ≤ k) (h2 : k ≤ 10000) (h40 : ds.length < 40) : bathErr Wd ss (ds ++ [((s : Int), k, k)]) = 0 := by
  obtain ⟨a, b, c, d, e⟩ := bath_ok h
  rw [bathErr_more a, if_pos ⟨b.1, by simp; omega⟩, if_pos c, if_pos d, if_pos]
  rw [List.all_append, e]
  simp [dropOk, inside]
  omega

theorem room_begins {Wd : Int} {ss : List (Int × Int)} {ds : List (Int × Int × Int)} (he : bathErr Wd ss ds = 0) (s : Nat) {r : Nat} (hr : (List.range 10000).findIdx (tooFar Wd ss (sizes ds) ss.length s) = r) : r ≤ 10000 ∧ (∀ k, k < r → tooFar Wd ss (sizes ds) ss.length s k = false) ∧ ∀ k, r ≤ k → k < 10000 → tooFar Wd ss (sizes ds) ss.length s k = true := by
  have hbd0 : ∀ m, 0 ≤ (sizes ds m).1 ∧ 0 ≤ (sizes ds m).2 := fun m => by have := sizes_bd' he ds.length m; rw [List.take_length] at this; omega
  have hle : r ≤ 10000 := by
    rw [← hr]
    have := List.findIdx_le_length (p := tooFar Wd ss (sizes ds) ss.length s) (xs := List.range 10000)
    simpa using this
  refine ⟨hle, fun k hk => ?_, fun k hk hk2 => ?_⟩
  · have := List.not_of_lt_findIdx (p := tooFar Wd ss (sizes ds) ss.length s) (xs := List.range 10000) (i := k) (by rw [hr]; exact hk)
    simpa using this
  · have hlt : (List.range 10000).findIdx (tooFar Wd ss (sizes ds) ss.length s) < (List.range 10000).length := by rw [hr]; simp; omega
    have := List.findIdx_getElem (w := hlt)
    simp only [List.getElem_range, hr] at this
    exact tooFar_mono Wd ss (sizes ds) ss.length s hbd0 r k hk this
theorem room_free {Wd : Int} {ss : List (Int × Int)} {ds : List (Int × Int × Int)} {s k : Nat} (h : tooFar Wd ss (sizes ds) ss.length s k = false) : freeB Wd ss (sizes (ds ++ [((s : Int), (k : Int) + 1, (k : Int) + 1)])) ss.length s = true := by
  rw [sizes_add]
  unfold tooFar at h
  simpa using h
theorem room_full {Wd : Int} {ss : List (Int × Int)} {ds : List (Int × Int × Int)} {s k : Nat} (h : tooFar Wd ss (sizes ds) ss.length s k = true) : freeB Wd ss (sizes (ds ++ [((s : Int), (k : Int) + 1, (k : Int) + 1)])) ss.length s = false := by
  rw [sizes_add]
  unfold tooFar at h
  simpa using h

/-- What Room answers, if there is any. -/
theorem room_told {Wd : Int} {ss : List (Int × Int)} {ds : List (Int × Int × Int)} (he : bathErr Wd ss ds = 0) {s : Nat} (hs : s < ss.length) (hf : freeB Wd ss (sizes ds) ss.length (s : Int) = true) :
    ∃ rr : Int, roomAns Wd ss ds (s : Int) = (rr, 0) ∧ 0 ≤ rr ∧ rr ≤ 10000 ∧ (1 ≤ rr → freeB Wd ss (sizes (ds ++ [((s : Int), rr, rr)])) ss.length (s : Int) = true) ∧ ∀ m : Int, rr < m → m ≤ 10000 → freeB Wd ss (sizes (ds ++ [((s : Int), m, m)])) ss.length (s : Int) = false := by
  obtain ⟨r, hr⟩ : ∃ r, (List.range 10000).findIdx (tooFar Wd ss (sizes ds) ss.length s) = r := ⟨_, rfl⟩
  obtain ⟨h1, h2, h3⟩ := room_begins he s hr
  refine ⟨(r : Int), ?_, by omega, by omega, fun hr1 => ?_, fun m hm hm2 => ?_⟩
  · unfold roomAns
    rw [if_pos he, if_pos (by simp; omega), if_pos hf, Int.toNat_natCast, hr]
  · obtain ⟨q, rfl⟩ : ∃ q, r = q + 1 := ⟨r - 1, by omega⟩
    exact room_free (h2 q (by omega))
  · obtain ⟨q, hq⟩ : ∃ q : Nat, m = (q : Int) + 1 := ⟨(m - 1).toNat, by omega⟩
    subst hq
    exact room_full (h3 q (by omega) (by omega))
theorem room_none {Wd : Int} {ss : List (Int × Int)} {ds : List (Int × Int × Int)} (he : bathErr Wd ss ds = 0) {s : Nat} (hs : s < ss.length) (hf : freeB Wd ss (sizes ds) ss.length (s : Int) = false) : roomAns Wd ss ds (s : Int) = (0, 10) := by
  unfold roomAns
  rw [if_pos he, if_pos (by simp; omega), if_neg (by rw [hf]; simp)]

section
variable {w : World} {Wd : Int} {A : Option Addr} {n c : Nat} {A' : Option Addr} {n' c' : Nat} {ss : List (Int × Int)} {ds : List (Int × Int × Int)}

set_option maxRecDepth 100000 in
set_option maxHeartbeats 2000000 in
theorem alone_law (s : Nat) (h0 : bathErr Wd ss ds = 0) (hb : IsBath w w.heap.size A n c A' n' c' ss ds) (hs : s < n) (hf : freeB Wd ss (sizes ds) n s = true) :
    Calls Try.prog 50 #[.agg #[.int .i64 Wd, .slice A n c, .slice A' n' c'], .int .i64 (s : Int)] w fun e w' => e = .returned (.bool true) ∧ Ext w w' := by
  have hX0 : BathAt (w.alloc (.cells #[.int .i64 Wd, .slice A n c, .slice A' n' c'] 25)) w.heap.size Wd A n c A' n' c' ss ds := BathAt.new hb
  have hE0 : Ext w (w.alloc (.cells #[.int .i64 Wd, .slice A n c, .slice A' n' c'] 25)) := ext_alloc w _
  have hnn := hb.nss
  have hn10 : n ≤ 10 := by have := (bath_ok h0).2.1.1; omega
  have cT : ∀ (k : Nat), k < n + 2 → (k : Int) - 2 ≠ (s : Int) → ∀ W : World, IsBath W W.heap.size A n c A' n' c' ss ds → Calls Try.prog 21 #[.agg #[.int .i64 Wd, .slice A n c, .slice A' n' c'], .int .i64 (s : Int), .int .i64 ((k : Int) - 2)] W fun e w' => e = .returned (.tuple #[.int .i64 0, .int .i64 0]) ∧ Ext W w' := fun k hk hne W hW => by
    have := touch_any (Wd := Wd) (s : Int) ((k : Int) - 2) hW
    have h1 := (freeB_iff (sizes ds) (s : Int)).1 hf k hk
    unfold apartB at h1
    simp only [Bool.or_eq_true, decide_eq_true_eq] at h1
    have h2 : kindOf Wd ss (sizes ds) (s : Int) ((k : Int) - 2) = 0 := by
      rcases h1 with h1 | h1
      · exact absurd h1 hne
      · exact h1
    rw [touchAns_ok h0 (fun e => hne e.symm) (by omega) (by omega), h2] at this
    exact this
  have CT := Lib.hid cT
  clear hb h0 hf hnn cT
  go_enter Try.func50, Try.ntmps50
  go_wp2
  obtain ⟨w0, hw0⟩ : ∃ w0, w.alloc (.cells #[.int .i64 Wd, .slice A n c, .slice A' n' c'] 25) = w0 := ⟨_, rfl⟩
  rw [hw0] at hX0 hE0 ⊢
  have HX := Lib.hid hX0
  have HE := Lib.hid hE0
  clear hw0 hX0 hE0
  obtain ⟨p, hp⟩ : ∃ p, w.heap.size = p := ⟨_, rfl⟩
  rw [hp] at HX ⊢
  clear hp
  go_loopw [5] (fun i wr => ∃ k : Nat, k ≤ n + 2 ∧ i = .int .i64 ((k : Int) - 2) ∧ Hid (Ext w0 wr)) (fun i _ => n + 2 - (intOf i + 2).toNat)
  case atStart => exact ⟨0, Nat.zero_le _, rfl, Lib.hid (Ext.refl _)⟩
  case round =>
    obtain ⟨k, hk, rfl, hB⟩ := hrel
    have hx := HX.out.ext hB.out
    obtain ⟨q0, q1, q2⟩ := hx.cells
    have hkb : (k : Int) ≤ 12 := by omega
    by_cases hlt : k < n + 2
    · have hltz : (k : Int) - 2 < (n : Int) := by omega
      by_cases hks : (k : Int) - 2 = (s : Int)
      · have e1 : ((k : Int) - 2 == (s : Int)) = true := by simp [hks]
        clear hx CT
        go_wp2
        go_roundw
        case measure => simp [intOf]; omega
        case rel => exact ⟨k + 1, by omega, by go_num, hB⟩
      · have e1 : ((k : Int) - 2 == (s : Int)) = false := by simp [hks]
        have cK := CT.out k hlt hks wr hx.bath
        go_wp2_with fail
        refine cK.mono ?_
        rintro e w2 ⟨rfl, e2⟩
        have HB2 := Lib.hid (hB.out.trans e2)
        clear hx hB e2 cK q0 q1 q2
        go_wp2
        go_roundw
        case measure => simp [intOf]; omega
        case rel => exact ⟨k + 1, by omega, by go_num, HB2⟩
    · have hltz : ¬ (k : Int) - 2 < (n : Int) := by omega
      clear hx CT
      go_wp2
      go_ret
      exact ⟨rfl, HE.out.trans hB.out⟩

/-- What a bath holds stays, if a row is changed that is none of its own. -/
theorem IsBath.setRow (h : IsBath w w.heap.size A n c A' n' c' ss ds) (g : Nat) (r : Array Value) (h1 : ∀ a, A = some a → a.block ≠ g) (h2 : ∀ a, A' = some a → a.block ≠ g) : IsBath (w.setRow g r) (w.setRow g r).heap.size A n c A' n' c' ss ds := by
  have key : ∀ {α : Type} {k : Nat} {enc : α → List Value} {L : Option Addr} {xs : List α}, Held w w.heap.size k enc L xs → (∀ a, L = some a → a.block ≠ g) → Held (w.setRow g r) (w.setRow g r).heap.size k enc L xs := by
    intro α k enc L xs hh hg
    rcases hh with e | ⟨b, off, rfl, hb, hc⟩
    · exact .inl e
    · have hne : b ≠ g := hg _ rfl
      refine .inr ⟨b, off, rfl, by simp [World.setRow]; exact hb, fun j x hj i v hi => ?_⟩
      have := hc j x hj i v hi
      rw [← this]
      simp only [World.cell?, World.setRow, Array.getElem?_modify]
      rw [if_neg (fun e => hne e.symm)]
  exact ⟨h.nss, h.nds, h.nle, h.nle', h.cap, h.cap', key h.hss h1, key h.hds h2⟩
end
end Go.Proofs.Ytckndnaohggmhaa
