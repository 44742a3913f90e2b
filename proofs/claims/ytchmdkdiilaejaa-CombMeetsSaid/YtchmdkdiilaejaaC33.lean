/- Texts of one package, joined: Meets. -/
import Derived.Test.YtchmdkdiilaejaaC12
import Derived.Test.YtchmdkdiilaejaaC28
import Derived.Test.YtchmdkdiilaejaaC32
/- CombMeets, walked. -/
namespace Go.Proofs.Ytchmdkdiilaejaa
open Go.RowKit Go.Shelf

theorem sp_held {W : World} {base : Nat} {xs : List (Int × Int × Int)} {A : Option Addr} {n c : Nat} (h : MadeSpaces base xs W (.slice A n c)) (hn : n = xs.length) : Held W W.heap.size 3 encD A xs := by
  have h1 := h.1
  rw [← hn] at h1
  exact (own_held (enc := encD) (fun _ => rfl) hn h1).1
theorem post_spaces {ms : List (Int × Int)} {w w' : World} {e : Ending} (h : Ext w w' ∧ ((spacesErr ms ≠ 0 ∧ e = .returned (.tuple #[.slice none 0 0, .int .i64 (spacesErr ms)])) ∨ (spacesErr ms = 0 ∧ ∃ v, e = .returned (.tuple #[v, .int .i64 0]) ∧ MadeSpaces w.heap.size (spacesTo ms 50) w' v))) :
    Ext w w' ∧ ∃ A m c, e = .returned (.tuple #[.slice A m c, .int .i64 (spacesErr ms)]) ∧ m = (if spacesErr ms = 0 then spacesTo ms 50 else []).length ∧ m ≤ 9223372036854775807 ∧ Held w' w'.heap.size 3 encD A (if spacesErr ms = 0 then spacesTo ms 50 else []) := by
  obtain ⟨hE, ⟨hne, rfl⟩ | ⟨h0, v, rfl, hM⟩⟩ := h
  · rw [if_neg hne]
    exact ⟨hE, none, 0, 0, rfl, rfl, by omega, .inl rfl⟩
  · rw [if_pos h0, h0]
    obtain ⟨A, c, rfl⟩ := owns_slice hM.1
    exact ⟨hE, A, _, c, rfl, rfl, owns_bound hM.1, sp_held hM rfl⟩

set_option maxRecDepth 100000 in
set_option maxHeartbeats 4000000 in
theorem meets_any (one two a o : Int) (A : Option Addr) (n c : Nat) (ms : List (Int × Int)) (w : World) (hn : n = ms.length) (hn9 : n ≤ 9223372036854775807) (hh : Held w w.heap.size 2 encS A ms) :
    Calls Try.prog 6 #[.int .i64 one, .int .i64 two, .int .i64 a, .int .i64 o, .slice A n c] w fun e w' => e = .returned (.bool true) ∧ Ext w w' := by
  have HH := Lib.hid hh
  have HN := Lib.hid hn
  clear hh hn
  by_cases hb : 18 < (n : Int)
  · go_enter Try.func6, Try.ntmps6
    go_wp2_with fail
    refine (works_any _).mono ?_
    rintro e w1 ⟨rfl, e1⟩
    have HE := Lib.hid e1
    clear e1
    go_wp2
    go_ret
    exact ⟨rfl, HE.out⟩
  · obtain ⟨r1, r2, r3, hans⟩ : ∃ r1 r2 r3, meetAns one two a o = ((r1, r2), r3) := ⟨_, _, _, rfl⟩
    have h1 := meet_any one two a o w
    have h2 := fun W : World => refMeet_any one two a o W
    rw [hans] at h1 h2
    dsimp only at h1 h2
    clear hans
    go_enter Try.func6, Try.ntmps6
    go_wp2_with fail
    refine h1.mono ?_
    rintro e w1 ⟨rfl, e1⟩
    have HE := Lib.hid (show Ext w w1 from e1)
    clear e1 h1
    go_wp2_with fail
    refine (h2 _).mono ?_
    rintro e w2 ⟨rfl, e2⟩
    have HE := Lib.hid (HE.out.trans e2)
    clear e2 h2
    have h3 := spaces_any A n c ms w2 HN.out hn9 ((HH.out.kept HE.out (Nat.le_refl _)).wider HE.out.size)
    go_wp2_with fail
    refine h3.mono ?_
    intro e w3 hp3
    obtain ⟨e3, A3, m3, c3, rfl, hm3, hb3, hh3⟩ := post_spaces hp3
    have HE := Lib.hid (HE.out.trans e3)
    have H3 := Lib.hid (And.intro hm3 (And.intro hb3 hh3))
    clear hp3 e3 hm3 hb3 hh3 h3
    have h4 := refSpaces_any A n c ms w3 HN.out hn9 ((HH.out.kept HE.out (Nat.le_refl _)).wider HE.out.size)
    obtain ⟨er, her⟩ : ∃ er, spacesErr ms = er := ⟨_, rfl⟩
    obtain ⟨xs, hxs⟩ : ∃ xs, (if er = 0 then spacesTo ms 50 else []) = xs := ⟨_, rfl⟩
    rw [her, hxs] at H3
    go_wp2_with fail
    refine h4.mono ?_
    intro e w4 hp4
    obtain ⟨e4, A4, m4, c4, rfl, hm4, hb4, hh4⟩ := post_spaces hp4
    have HE := Lib.hid (HE.out.trans e4)
    rw [her, hxs] at hm4 hh4
    rw [her]
    have h38 := speq_any A3 A4 m3 c3 m4 c4 xs xs w4 H3.out.1 hm4 H3.out.2.1 hb4 (H3.out.2.2.ext e4) hh4
    rw [decide_eq_true rfl] at h38
    clear hp4 e4 hm4 hb4 hh4 h4 hxs her
    go_wp2_with fail
    refine h38.mono ?_
    rintro e w5 ⟨rfl, e5⟩
    have HE := Lib.hid (HE.out.trans e5)
    clear e5 h38
    go_wp2_with fail
    refine (works_any _).mono ?_
    rintro e w6 ⟨rfl, e6⟩
    have HE := Lib.hid (HE.out.trans e6)
    clear e6
    go_wp2
    go_ret
    exact ⟨rfl, HE.out⟩
end Go.Proofs.Ytchmdkdiilaejaa
