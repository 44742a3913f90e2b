/- Texts of one package, joined: FewTail. -/
import Derived.Test.YtlaakmgdbhabfaaC17
import Derived.Deep.OwnRows
/- fewest: the end of the region that lays a longer list; how long the lists are. -/
namespace Go.Proofs.Ytlaakmgdbhabfaa
open Go.RowKit Go.Shelf
attribute [local irreducible] bitCells fitCells Z94 fitOf

theorem fw18_tail {a : Act} {W : World} {Q : Exit → Act → World → Prop} {g T s : Nat} {A : Option Addr} {n c : Nat} (e86 : a.eval (.tmp 86) = .slice (some ⟨g, 0, none⟩) T T) (e87 : a.eval (.tmp 87) = .int .i64 (s : Int)) (e97 : a.eval (.tmp 97) = .slice A n c)
    (hs : s < T) (h98 : 98 < a.tmps.size) (hc : (W.cell? ⟨g, s, none⟩).isSome = true) (hf : W.frozen? ⟨g, s, none⟩ = false)
    (K : Q .normal (a.put (some 98) (.pointer (some ⟨g, s, none⟩))) (W.setCell ⟨g, s, none⟩ (.slice A n c))) : wpList Try.prog fw18Reg Q (fw18Reg.toList.drop 12) a W := by
  obtain ⟨o1, o2, hdr, h1, h2⟩ : ∃ o1 o2, fw18Reg.toList.drop 12 = [o1, o2] ∧ fw18Reg[12]? = some o1 ∧ fw18Reg[13]? = some o2 := by
    have hs : fw18Reg.size = 14 := by kernel_rfl
    refine ⟨fw18Reg[12], fw18Reg[13], ?_, by simp, by simp⟩
    rw [List.drop_eq_getElem_cons (by simp [hs]), List.drop_eq_getElem_cons (by simp [hs]), List.drop_eq_nil_of_le (by simp [hs])]
    simp
  rw [hdr]
  have hop1 := op_at h1 (·.op) (x := Op.indexAddr 116 (Operand.tmp 86) (Operand.tmp 87)) (by kernel_rfl)
  have hg1 := op_at h1 (·.guard) (x := none) (by kernel_rfl)
  have hd1 := op_at h1 (·.dst) (x := some 98) (by kernel_rfl)
  have hop2 := op_at h2 (·.op) (x := Op.store 54 (Operand.tmp 98) (Operand.tmp 97)) (by kernel_rfl)
  have hg2 := op_at h2 (·.guard) (x := none) (by kernel_rfl)
  have hd2 := op_at h2 (·.dst) (x := none) (by kernel_rfl)
  have hsz : (s : Int) < (T : Int) := by omega
  have hr1 : (execOp a.eval o1).run Try.prog W = .ok (.value (.pointer (some ⟨g, s, none⟩))) W := by simp [execOp, hop1, go_sem, ev e86, ev e87, hsz]
  simp only [wpList]
  rw [if_pos (by simp [Region.wanted, hg1])]
  left
  unfold Oper.wp
  rw [hr1]
  obtain ⟨a1, ha1⟩ : ∃ a1, a.put o1.dst (.pointer (some ⟨g, s, none⟩)) = a1 := ⟨_, rfl⟩
  have e98 : a1.eval (.tmp 98) = .pointer (some ⟨g, s, none⟩) := by rw [← ha1, hd1]; simp [Act.put, Act.eval, h98]
  have e97' : a1.eval (.tmp 97) = .slice A n c := by rw [← ha1, hd1, ← e97]; simp [Act.put, Act.eval]
  show (if _ then _ else _)
  rw [ha1, if_pos (by simp [Region.wanted, hg2])]
  left
  have hr2 : (execOp a1.eval o2).run Try.prog W = .ok .skip (W.setCell ⟨g, s, none⟩ (.slice A n c)) := by
    obtain ⟨u, hu⟩ := Option.isSome_iff_exists.1 hc
    simp [execOp, hop2, go_sem, ev e98, ev e97', hu, hf]
  rw [hr2]
  show Q .normal (a1.put o2.dst undef) _
  rw [hd2, ← ha1, hd1]
  exact K

theorem pick_le {k t : Nat} {acc bef : Option (List Rw)} {x : Rw} (ht : t ≤ k) (ha : ∀ p, acc = some p → p.length ≤ k) (hb : ∀ q, bef = some q → q.length ≤ t) (he : t = k → bef = acc) : ∀ p, pick acc bef x = some p → p.length ≤ k := by
  intro p hp
  unfold pick at hp
  cases bef with
  | none => exact ha p hp
  | some q =>
    have hq := hb q rfl
    cases acc with
    | none =>
      simp only [Option.some.injEq] at hp
      subst hp
      by_cases e : t = k
      · cases he e
      · simp; omega
    | some p' =>
      simp only at hp
      split at hp
      · exact ha p hp
      · rename_i hn
        simp only [Option.some.injEq] at hp
        subst hp
        by_cases e : t = k
        · cases he e
          omega
        · simp; omega
theorem tabAcc_le {no : Rw → Nat} {tab : List (Option (List Rw))} {k : Nat} (hk : tab.length = k) (h : ∀ s r, tab.getD s none = some r → r.length ≤ s) : ∀ (xs : List Rw) (acc : Option (List Rw)), (∀ p, acc = some p → p.length ≤ k) → ∀ p, tabAcc no tab k xs acc = some p → p.length ≤ k
  | [], acc, ha, p, hp => ha p hp
  | x :: xs, acc, ha, p, hp => by
    refine tabAcc_le hk h xs _ (pick_le (t := butNot k (no x)) (butNot_le _ _) ha (fun q hq => ?_) (fun e => by unfold expOf; rw [if_pos e])) p hp
    unfold expOf at hq
    split at hq
    · rename_i e
      rw [e]; exact ha q hq
    · exact h _ _ hq
theorem tabTo_le (no : Rw → Nat) (xs : List Rw) : ∀ k s r, (tabTo no xs k).getD s none = some r → r.length ≤ s
  | 0, s, r, h => by simp [tabTo] at h
  | k + 1, s, r, h => by
    have ih := tabTo_le no xs k
    have hl := tabTo_len no xs k
    by_cases h1 : s < k
    · rw [tabTo, getD_low _ _ _ _ (by omega)] at h
      exact ih s r h
    · by_cases h2 : s = k
      · subst h2
        rw [tabTo] at h
        simp only [List.getD_eq_getElem?_getD] at h
        rw [List.getElem?_append_right (by omega), hl] at h
        simp only [Nat.sub_self, List.getElem?_cons_zero, Option.getD_some] at h
        refine tabAcc_le hl ih xs _ (fun p hp => ?_) r h
        unfold tabInit at hp
        split at hp
        · cases hp; simp
        · cases hp
      · rw [getD_out _ _ _ (by rw [tabTo_len]; omega)] at h
        cases h
theorem expOf_le {no : Rw → Nat} {xs : List Rw} {k i t : Nat} {r : List Rw} (h : expOf (tabTo no xs k) k (tabAcc no (tabTo no xs k) k (xs.take i) (tabInit k)) t = some r) : r.length ≤ t := by
  unfold expOf at h
  split at h
  · rename_i e
    subst e
    refine tabAcc_le (tabTo_len no xs t) (tabTo_le no xs t) _ _ (fun p hp => ?_) r h
    unfold tabInit at hp
    split at hp
    · cases hp; simp
    · cases hp
  · exact tabTo_le no xs k t r h
theorem rowsAt_own {W : World} {r : List Rw} {v : Value} (h : W.ownsRow 0 27 2 v r.length (r.flatMap encRw)) (hr : r ≠ []) : RowsAt W r v := by
  rcases h.2 with ⟨_, h1⟩ | ⟨g, cap, cur, rfl, _, hg, h1, h2, h3, h4⟩
  · exact absurd (List.eq_nil_of_length_eq_zero h1) hr
  · refine ⟨g, 0, cap, cur, rfl, h1, h2, hg, fun j x hj => ?_⟩
    have h5 := flat_at2 encRw 2 (fun _ => rfl) r j x
    have a0 := h5 0 _ hj rfl
    have a1 := h5 1 _ hj rfl
    rw [← h4, List.getElem?_take] at a0 a1
    split at a0
    · split at a1
      · simp only [Nat.zero_add]
        exact ⟨by simpa using a0, by simpa using a1⟩
      · cases a1
    · cases a0
end Go.Proofs.Ytlaakmgdbhabfaa
