/- Texts of one package, joined: ListsIt. -/
import Derived.Test.YtlaakmgdbhabfaaC12
import Derived.Laws.EntriesVeiled
/- lists: the iterator and its contract. -/
namespace Go.Proofs.Ytlaakmgdbhabfaa
open Go.RowKit Go.Shelf
attribute [local irreducible] bitCells fitCells Z94 fitOf

set_option maxHeartbeats 400000 in
theorem lists_any (b : Nat) (x : Int) (w : World) : Calls Try.prog 67 #[.pointer (some ⟨b, 0, none⟩), .int .i64 x] w fun e w' => e = .returned (.func (.func 94) #[] #[.pointer (some ⟨w.heap.size + 1, 0, none⟩), .pointer (some ⟨w.heap.size, 0, none⟩)]) ∧
    w' = (w.alloc (.cells #[.pointer (some ⟨b, 0, none⟩)] 83)).alloc (.cells #[.int .i64 x] 3) := by
  go_enter Try.func67, Try.ntmps67
  go_wp2
  go_ret
  exact ⟨rfl, rfl⟩
theorem enters94 : ∀ args w, (callFunc 94 args).run Try.prog w = .ok (.enter 94 args) w := enters_of Try.func94 (by kernel_rfl) rfl

set_option maxRecDepth 100000 in
set_option maxHeartbeats 1000000 in
theorem lists_seq {b long pl ps : Nat} {A : Option Addr} {n c : Nat} {A' : Option Addr} {n' c' : Nat} {A2 : Option Addr} {k2 c2 : Nat} (N : Nat) (hN : 1 ≤ N) (h12 : n' ≤ 12) (w : World)
    (hl : w.heap[pl]? = some (.cells #[.int .i64 (long : Int)] 3 (0, 0))) (hs : w.heap[ps]? = some (.cells #[.pointer (some ⟨b, 0, none⟩)] 83 (0, 0))) (hb : w.heap[b]? = some (.cells #[.slice A n c, .slice A' n' c', .slice A2 k2 c2] 98 (0, 0))) :
    SeqHeld N 94 #[.pointer (some ⟨pl, 0, none⟩), .pointer (some ⟨ps, 0, none⟩)] LsAt (gOf long n' n' []) w := by
  intro l J Jx W hW hJe hY hJ
  refine callsIn_wide.2 ?_
  have h1 : W.heap[pl]? = some (.cells #[.int .i64 (long : Int)] 3 (0, 0)) := (hW.block pl (Array.getElem?_eq_some_iff.1 hl).1).trans hl
  have h2 : W.heap[ps]? = some (.cells #[.pointer (some ⟨b, 0, none⟩)] 83 (0, 0)) := (hW.block ps (Array.getElem?_eq_some_iff.1 hs).1).trans hs
  have h3 : W.heap[b]? = some (.cells #[.slice A n c, .slice A' n' c', .slice A2 k2 c2] 98 (0, 0)) := (hW.block b (Array.getElem?_eq_some_iff.1 hb).1).trans hb
  have hsz := hW.size
  have e1 : Ext W (W.alloc (.cells #[.func (.yield l) #[] #[]] 109)) := ext_alloc _ _
  obtain ⟨cap, hcap⟩ : ∃ cap, (#[.pointer (some ⟨pl, 0, none⟩), .pointer (some ⟨W.heap.size, 0, none⟩), .pointer (some ⟨ps, 0, none⟩), .pointer (some ⟨W.heap.size + 1, 0, none⟩)] : Array Value) = cap := ⟨_, rfl⟩
  have e2 : Ext W ((W.alloc (.cells #[.func (.yield l) #[] #[]] 109)).alloc (.cells #[.func (.func 95) #[] cap] 61)) := e1.trans (ext_alloc _ _)
  have hM : LsMem ((W.alloc (.cells #[.func (.yield l) #[] #[]] 109)).alloc (.cells #[.func (.func 95) #[] cap] 61)) l pl W.heap.size ps (W.heap.size + 1) b long A n c A' n' c' A2 k2 c2 :=
    ⟨row_ext h1 e2, row_ext (row_last _ _ _ rfl) (ext_alloc _ _), row_ext h2 e2, by rw [← hcap]; exact row_last _ _ _ (by simp), row_ext h3 e2⟩
  have hcall := grow_any N w.heap.size hN h12 (gOf long n' n' []) J Jx hJe hY n' [] [] (.slice none 0 0) _ hM (Nat.le_trans hsz e2.size) (Nat.le_refl _) (by simp) (hJe _ _ _ hJ e2) (by simp) ⟨none, 0, rfl, Nat.le_refl _, fun _ => rfl, .inl rfl⟩
  rw [Nat.sub_self, show (#[.slice none 0 0, .int .i64 ((0 : Nat) : Int), .pointer (some ⟨pl, 0, none⟩), .pointer (some ⟨W.heap.size, 0, none⟩), .pointer (some ⟨ps, 0, none⟩), .pointer (some ⟨W.heap.size + 1, 0, none⟩)] : Array Value) = #[.slice none 0 0, .int .i64 0] ++ cap from by rw [← hcap]; rfl, List.nil_append] at hcall
  have HC := Lib.hid hcall
  clear hcall hM e1 e2 h1 h2 h3 hW hl hs hb hY hJ hJe
  show Calls Try.prog 94 #[.func (.yield l) #[] #[], .pointer (some ⟨pl, 0, none⟩), .pointer (some ⟨ps, 0, none⟩)] W _
  go_enter Try.func94, Try.ntmps94
  go_wp2_with (first | (refine (HC.out).mono ?_; rintro e w' (⟨rfl, h1, h2⟩ | ⟨rfl, h1⟩)))
  · have H := Lib.hid h1
    clear h1 h2
    go_wp2
    go_end0
    exact ⟨⟨_, rfl⟩, .inl H.out⟩
  · have H := Lib.hid h1
    clear h1
    go_wp2
    go_end0
    exact ⟨⟨_, rfl⟩, .inr H.out⟩
end Go.Proofs.Ytlaakmgdbhabfaa
