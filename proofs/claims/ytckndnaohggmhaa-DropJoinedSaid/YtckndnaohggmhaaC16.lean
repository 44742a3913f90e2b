/- Texts of the package drop, joined: WayPure, WayGo. -/
/- The first one of the shortest ways: found breadth first, and found by how far it is still to go. Plain mathematics: no program. -/
namespace Go.Proofs.Ytckndnaohggmhaa

/-- A list as a number: a longer list has a greater one, of equally long ones the lexicographically greater one. -/
def keyR : List Nat → Nat
  | [] => 0
  | a :: l => 13 * keyR l + a + 1
def key (l : List Nat) : Nat := keyR l.reverse
theorem key_snoc (l : List Nat) (a : Nat) : key (l ++ [a]) = 13 * key l + a + 1 := by simp [key, keyR]
theorem keyR_snoc (a : Nat) : ∀ m : List Nat, keyR (m ++ [a]) = keyR m + (a + 1) * 13 ^ m.length
  | [] => by simp [keyR]
  | b :: m => by
    show 13 * keyR (m ++ [a]) + b + 1 = 13 * keyR m + b + 1 + (a + 1) * 13 ^ (m.length + 1)
    rw [keyR_snoc a m, Nat.pow_succ, Nat.mul_add]
    have : 13 * ((a + 1) * 13 ^ m.length) = (a + 1) * (13 ^ m.length * 13) := by rw [Nat.mul_left_comm, Nat.mul_comm 13]
    omega
theorem key_cons (a : Nat) (l : List Nat) : key (a :: l) = key l + (a + 1) * 13 ^ l.length := by
  unfold key
  rw [List.reverse_cons, keyR_snoc, List.length_reverse]
theorem keyR_inj : ∀ (l m : List Nat), (∀ a, a ∈ l → a < 13) → (∀ a, a ∈ m → a < 13) → keyR l = keyR m → l = m
  | [], [], _, _, _ => rfl
  | [], b :: m, _, _, h => by simp [keyR] at h
  | a :: l, [], _, _, h => by simp [keyR] at h
  | a :: l, b :: m, h1, h2, h => by
    have ha := h1 a (by simp)
    have hb := h2 b (by simp)
    simp only [keyR] at h
    obtain rfl : a = b := by omega
    rw [keyR_inj l m (fun x hx => h1 x (by simp [hx])) (fun x hx => h2 x (by simp [hx])) (by omega)]
theorem key_inj {l m : List Nat} (h1 : ∀ a, a ∈ l → a < 13) (h2 : ∀ a, a ∈ m → a < 13) (h : key l = key m) : l = m := by
  have := keyR_inj l.reverse m.reverse (fun a ha => h1 a (by simpa using ha)) (fun a ha => h2 a (by simpa using ha)) h
  simpa using congrArg List.reverse this
theorem keyR_lt : ∀ (l : List Nat), (∀ a, a ∈ l → a < 12) → keyR l < 13 ^ l.length
  | [], _ => by simp [keyR]
  | a :: l, h => by
    have := keyR_lt l (fun x hx => h x (by simp [hx]))
    have := h a (by simp)
    simp only [keyR, List.length_cons, Nat.pow_succ]
    omega
theorem key_lt {l : List Nat} (h : ∀ a, a ∈ l → a < 12) : key l < 13 ^ l.length := by
  have := keyR_lt l.reverse (fun a ha => h a (by simpa using ha))
  simpa [key] using this
theorem key_long {l m : List Nat} (h : ∀ a, a ∈ l → a < 12) (hl : l.length < m.length) : key l < key m := by
  cases m with
  | nil => simp at hl
  | cons a m =>
    rw [key_cons]
    have h1 := key_lt h
    have h2 : 13 ^ l.length ≤ 13 ^ m.length := Nat.pow_le_pow_right (by omega) (by simp at hl; omega)
    have h3 : 13 ^ m.length ≤ (a + 1) * 13 ^ m.length := Nat.le_mul_of_pos_left _ (by omega)
    omega
/-- Of equally long lists the first element decides. -/
theorem key_lex {a b : Nat} {l m : List Nat} (h : ∀ x, x ∈ l → x < 12) (hlen : l.length = m.length) (hab : a < b) : key (a :: l) < key (b :: m) := by
  rw [key_cons, key_cons, ← hlen]
  have h1 := key_lt h
  have h2 : (a + 1 + 1) * 13 ^ l.length ≤ (b + 1) * 13 ^ l.length := Nat.mul_le_mul_right _ (by omega)
  rw [Nat.add_mul (a + 1) 1, Nat.one_mul] at h2
  omega

section
variable {H : Nat → Nat → Bool} {s t : Nat}

/-- A way from s, built at its end. -/
inductive PathTo (H : Nat → Nat → Bool) (s : Nat) : List Nat → Nat → Prop
  | start : PathTo H s [s] s
  | step {l : List Nat} {i j : Nat} : PathTo H s l i → i < 12 → j < 12 → H i j = true → PathTo H s (l ++ [j]) j
/-- A way to t, built at its beginning. -/
inductive PathFrom (H : Nat → Nat → Bool) (t : Nat) : List Nat → Nat → Prop
  | stop : PathFrom H t [t] t
  | step {l : List Nat} {i j : Nat} : PathFrom H t l j → i < 12 → j < 12 → H i j = true → PathFrom H t (i :: l) i

theorem PathTo.lt (hs : s < 12) {l : List Nat} {i : Nat} (h : PathTo H s l i) : i < 12 ∧ ∀ a, a ∈ l → a < 12 := by
  induction h with
  | start => exact ⟨hs, fun a ha => by simp at ha; omega⟩
  | step _ _ hj _ ih => exact ⟨hj, fun a ha => by
      rcases List.mem_append.1 ha with ha | ha
      · exact ih.2 a ha
      · simp at ha; omega⟩
theorem PathFrom.lt (ht : t < 12) {l : List Nat} {i : Nat} (h : PathFrom H t l i) : i < 12 ∧ ∀ a, a ∈ l → a < 12 := by
  induction h with
  | stop => exact ⟨ht, fun a ha => by simp at ha; omega⟩
  | step _ hi _ _ ih => exact ⟨hi, fun a ha => by
      rcases List.mem_cons.1 ha with ha | ha
      · omega
      · exact ih.2 a ha⟩
theorem PathFrom.cons {l : List Nat} {i : Nat} (h : PathFrom H t l i) : ∃ m, l = i :: m := by
  cases h with
  | stop => exact ⟨_, rfl⟩
  | step => exact ⟨_, rfl⟩
theorem PathTo.append {l : List Nat} {i : Nat} (h : PathTo H s l i) : ∀ m, PathFrom H t (i :: m) i → PathFrom H t (l ++ m) s := by
  induction h with
  | start => exact fun m hm => hm
  | step _ hi hj hij ih =>
    intro m hm
    rw [List.append_assoc]
    exact ih _ (.step hm hi hj hij)
theorem PathTo.toFrom {l : List Nat} (h : PathTo H s l t) : PathFrom H t l s := by
  have := h.append [] (.stop)
  simpa using this
theorem PathFrom.append {l : List Nat} {i : Nat} (h : PathFrom H t l i) : ∀ m x, PathTo H s m x → x < 12 → i < 12 → H x i = true → PathTo H s (m ++ l) t := by
  induction h with
  | stop => exact fun m x hm hx hi hH => .step hm hx hi hH
  | step _ hi hj hij ih =>
    intro m x hm hx _ hH
    have := ih _ _ (.step hm hx hi hH) hi hj hij
    rw [List.append_assoc] at this
    exact this
theorem PathFrom.toTo {l : List Nat} (h : PathFrom H t l s) : PathTo H s l t := by
  cases h with
  | stop => exact .start
  | step h hi hj hij => exact h.append [s] s .start hi hj hij

/-- The first one of the shortest ways from s to t. -/
def FirstWay (H : Nat → Nat → Bool) (s t : Nat) (l : List Nat) : Prop := PathTo H s l t ∧ ∀ m, PathTo H s m t → key l ≤ key m
theorem FirstWay.one (hs : s < 12) {l m : List Nat} (h : FirstWay H s t l) (k : FirstWay H s t m) : l = m :=
  key_inj (fun a ha => by have := (h.1.lt hs).2 a ha; omega) (fun a ha => by have := (k.1.lt hs).2 a ha; omega) (Nat.le_antisymm (h.2 _ k.1) (k.2 _ h.1))

/-- Places F were found, in this order, P each one's way; the first k of them were looked at. -/
structure Found (H : Nat → Nat → Bool) (s t : Nat) (F : List Nat) (P : Nat → List Nat) (k : Nat) : Prop where
  nodup : F.Nodup
  head : F[0]? = some s
  lt : ∀ j, j ∈ F → j < 12 ∧ j ≠ t
  le : k ≤ F.length
  path : ∀ j, j ∈ F → PathTo H s (P j) j
  least : ∀ j, j ∈ F → ∀ l, PathTo H s l j → key (P j) ≤ key l
  sorted : ∀ (a b x y : Nat), a < b → F[a]? = some x → F[b]? = some y → key (P x) < key (P y)
  shut : ∀ (a x : Nat), a < k → F[a]? = some x → ∀ j, j < 12 → H x j = true → j ∈ F
  from_ : ∀ (b y : Nat), 0 < b → F[b]? = some y → ∃ a x, a < k ∧ F[a]? = some x ∧ P y = P x ++ [y]
/-- .. and p, the one at k, is looked at: its neighbours pre already were. -/
structure Finding (H : Nat → Nat → Bool) (s t : Nat) (F : List Nat) (P : Nat → List Nat) (k p : Nat) (pre : List Nat) : Prop where
  nodup : F.Nodup
  head : F[0]? = some s
  lt : ∀ j, j ∈ F → j < 12 ∧ j ≠ t
  at_ : F[k]? = some p
  path : ∀ j, j ∈ F → PathTo H s (P j) j
  least : ∀ j, j ∈ F → ∀ l, PathTo H s l j → key (P j) ≤ key l
  sorted : ∀ (a b x y : Nat), a < b → F[a]? = some x → F[b]? = some y → key (P x) < key (P y)
  shut : ∀ (a x : Nat), a < k → F[a]? = some x → ∀ j, j < 12 → H x j = true → j ∈ F
  from_ : ∀ (b y : Nat), 0 < b → F[b]? = some y → ∃ a x, F[a]? = some x ∧ P y = P x ++ [y] ∧ (a < k ∨ a = k ∧ y ∈ pre)
  done : ∀ j, j ∈ pre → j ∈ F

theorem Found.start (hs : s < 12) (hst : s ≠ t) : Found H s t [s] (fun _ => [s]) 0 where
  nodup := by simp
  head := rfl
  lt j hj := by simp at hj; subst hj; exact ⟨hs, hst⟩
  le := by simp
  path j hj := by simp at hj; subst hj; exact .start
  least j hj l hl := by
    cases hl with
    | start => exact Nat.le_refl _
    | step _ _ _ _ => rw [key_snoc]; simp at hj; subst hj; simp [key, keyR]
  sorted a b x y hab hx hy := by
    cases b with
    | zero => omega
    | succ b => simp at hy
  shut a x ha := by omega
  from_ b y hb hy := by
    cases b with
    | zero => omega
    | succ b => simp at hy

variable {F : List Nat} {P : Nat → List Nat} {k p : Nat} {pre : List Nat}

theorem Found.look (h : Found H s t F P k) (hp : F[k]? = some p) : Finding H s t F P k p [] where
  nodup := h.nodup
  head := h.head
  lt := h.lt
  at_ := hp
  path := h.path
  least := h.least
  sorted := h.sorted
  shut := h.shut
  from_ b y hb hy := by
    obtain ⟨a, x, ha, hx, e⟩ := h.from_ b y hb hy
    exact ⟨a, x, hx, e, .inl ha⟩
  done j hj := by simp at hj

/-- What was not found is farther than what is looked at. -/
theorem Finding.far (h : Finding H s t F P k p pre) {l : List Nat} {i : Nat} (hl : PathTo H s l i) : i ∈ F ∨ key (P p) < key l := by
  induction hl with
  | start => exact .inl (List.mem_of_getElem? h.head)
  | step h1 hi hj hij ih =>
    rename_i l i j
    rw [key_snoc]
    rcases ih with ih | ih
    · obtain ⟨a, ha⟩ := List.getElem?_of_mem ih
      by_cases hak : a < k
      · exact .inl (h.shut a i hak ha j hj hij)
      · right
        have h2 := h.least i ih _ h1
        by_cases e : a = k
        · subst e
          rw [h.at_] at ha
          cases ha
          omega
        · have := h.sorted k a _ _ (by omega) h.at_ ha
          omega
    · right; omega
/-- A neighbour that was not found: its way. -/
theorem Finding.newWay (h : Finding H s t F P k p pre) {j : Nat} (hj : j < 12) (hn : j ∉ F) (hH : H p j = true) : FirstWay H s j (P p ++ [j]) := by
  have hpF := List.mem_of_getElem? h.at_
  refine ⟨.step (h.path p hpF) (h.lt p hpF).1 hj hH, fun m hm => ?_⟩
  cases hm with
  | start => exact absurd (List.mem_of_getElem? h.head) hn
  | step h1 hi hj2 hij =>
    rename_i l i
    rw [key_snoc, key_snoc]
    rcases h.far h1 with hF | hF
    · obtain ⟨a, ha⟩ := List.getElem?_of_mem hF
      by_cases hak : a < k
      · exact absurd (h.shut a i hak ha j hj hij) hn
      · have h2 := h.least i hF _ h1
        by_cases e : a = k
        · subst e
          rw [h.at_] at ha
          cases ha
          omega
        · have := h.sorted k a _ _ (by omega) h.at_ ha
          omega
    · omega
theorem Finding.hit (h : Finding H s t F P k p pre) (ht : t < 12) (hH : H p t = true) : FirstWay H s t (P p ++ [t]) :=
  h.newWay ht (fun e => (h.lt t e).2 rfl) hH
theorem Finding.old (h : Finding H s t F P k p pre) {j : Nat} (hj : j ∈ F) : Finding H s t F P k p (pre ++ [j]) :=
  { h with
    from_ := fun b y hb hy => by
      obtain ⟨a, x, hx, e, h1 | h1⟩ := h.from_ b y hb hy
      · exact ⟨a, x, hx, e, .inl h1⟩
      · exact ⟨a, x, hx, e, .inr ⟨h1.1, by simp [h1.2]⟩⟩
    done := fun i hi => by
      rcases List.mem_append.1 hi with hi | hi
      · exact h.done i hi
      · rw [List.mem_singleton.1 hi]; exact hj }
def putWay (P : Nat → List Nat) (j : Nat) (l : List Nat) (i : Nat) : List Nat := if i = j then l else P i
theorem putWay_same (P : Nat → List Nat) (j : Nat) (l : List Nat) : putWay P j l j = l := by simp [putWay]
theorem putWay_other (P : Nat → List Nat) {j i : Nat} (l : List Nat) (h : i ≠ j) : putWay P j l i = P i := by simp [putWay, h]
theorem Finding.new (h : Finding H s t F P k p pre) {j : Nat} (hj : j < 12) (hjt : j ≠ t) (hn : j ∉ F) (hH : H p j = true) (hpre : ∀ i, i ∈ pre → i < j) : Finding H s t (F ++ [j]) (putWay P j (P p ++ [j])) k p (pre ++ [j]) := by
  have hpF := List.mem_of_getElem? h.at_
  have hne : ∀ i, i ∈ F → i ≠ j := fun i hi e => hn (e ▸ hi)
  have hP : ∀ i, i ∈ F → putWay P j (P p ++ [j]) i = P i := fun i hi => putWay_other P _ (hne i hi)
  have hPj := putWay_same P j (P p ++ [j])
  have hnew := h.newWay hj hn hH
  have hget : ∀ a x, (F ++ [j])[a]? = some x → F[a]? = some x ∨ (a = F.length ∧ x = j) := fun a x hx => by
    rw [List.getElem?_append] at hx
    split at hx
    · exact .inl hx
    · rename_i hh
      right
      have : a - F.length = 0 := by
        rcases hc : a - F.length with _ | c
        · rfl
        · rw [hc] at hx; simp at hx
      rw [this] at hx
      simp at hx
      exact ⟨by omega, hx.symm⟩
  have hup : ∀ a x, F[a]? = some x → (F ++ [j])[a]? = some x := fun a x hx => by
    rw [List.getElem?_append_left (List.getElem?_eq_some_iff.1 hx).1]; exact hx
  have hkl := (List.getElem?_eq_some_iff.1 h.at_).1
  refine ⟨?_, hup _ _ h.head, ?_, hup _ _ h.at_, ?_, ?_, ?_, ?_, ?_, ?_⟩
  · rw [List.nodup_append]
    exact ⟨h.nodup, by simp, fun a ha b hb => by simp at hb; subst hb; exact hne a ha⟩
  · intro i hi
    rcases List.mem_append.1 hi with hi | hi
    · exact h.lt i hi
    · rw [List.mem_singleton.1 hi]; exact ⟨hj, hjt⟩
  · intro i hi
    rcases List.mem_append.1 hi with hi | hi
    · rw [hP i hi]; exact h.path i hi
    · rw [List.mem_singleton.1 hi, hPj]; exact hnew.1
  · intro i hi
    rcases List.mem_append.1 hi with hi | hi
    · rw [hP i hi]; exact h.least i hi
    · rw [List.mem_singleton.1 hi, hPj]; exact hnew.2
  · intro a b x y hab hx hy
    rcases hget b y hy with hy1 | ⟨rfl, rfl⟩
    · have hbl := (List.getElem?_eq_some_iff.1 hy1).1
      rcases hget a x hx with hx | ⟨rfl, rfl⟩
      · rw [hP _ (List.mem_of_getElem? hx), hP _ (List.mem_of_getElem? hy1)]
        exact h.sorted a b x y hab hx hy1
      · omega
    · rcases hget a x hx with hx | ⟨rfl, rfl⟩
      · rw [hP _ (List.mem_of_getElem? hx), hPj, key_snoc]
        by_cases hak : a ≤ k
        · by_cases e : a = k
          · subst e
            rw [h.at_] at hx
            cases hx
            omega
          · have := h.sorted a k _ _ (by omega) hx h.at_
            omega
        · obtain ⟨a', x', hx', e, h1 | h1⟩ := h.from_ a x (by omega) hx
          · have := h.sorted a' k _ _ h1 hx' h.at_
            have := (h.lt x (List.mem_of_getElem? hx)).1
            rw [e, key_snoc]
            omega
          · rw [h1.1, h.at_] at hx'
            cases hx'
            have := hpre x h1.2
            rw [e, key_snoc]
            omega
      · omega
  · intro a x ha hx i hi hH'
    rcases hget a x hx with hx | ⟨rfl, rfl⟩
    · exact List.mem_append_left _ (h.shut a x ha hx i hi hH')
    · omega
  · intro b y hb hy
    rcases hget b y hy with hy | ⟨rfl, rfl⟩
    · obtain ⟨a, x, hx, e, h1⟩ := h.from_ b y hb hy
      refine ⟨a, x, hup _ _ hx, ?_, ?_⟩
      · rw [hP _ (List.mem_of_getElem? hx), hP _ (List.mem_of_getElem? hy), e]
      · rcases h1 with h1 | h1
        · exact .inl h1
        · exact .inr ⟨h1.1, by simp [h1.2]⟩
    · exact ⟨k, p, hup _ _ h.at_, by rw [hPj, hP p hpF], .inr ⟨rfl, by simp⟩⟩
  · intro i hi
    rcases List.mem_append.1 hi with hi | hi
    · exact List.mem_append_left _ (h.done i hi)
    · rw [List.mem_singleton.1 hi]; simp
theorem Finding.end (h : Finding H s t F P k p pre) (hall : ∀ j, j < 12 → H p j = true → j ∈ pre) : Found H s t F P (k + 1) where
  nodup := h.nodup
  head := h.head
  lt := h.lt
  le := (List.getElem?_eq_some_iff.1 h.at_).1
  path := h.path
  least := h.least
  sorted := h.sorted
  shut a x ha hx j hj hH := by
    by_cases e : a = k
    · subst e
      rw [h.at_] at hx
      cases hx
      exact h.done j (hall j hj hH)
    · exact h.shut a x (by omega) hx j hj hH
  from_ b y hb hy := by
    obtain ⟨a, x, hx, e, h1 | h1⟩ := h.from_ b y hb hy
    · exact ⟨a, x, by omega, hx, e⟩
    · exact ⟨a, x, by omega, hx, e⟩
/-- All were looked at: there is no way. -/
theorem Found.none (h : Found H s t F P F.length) (l : List Nat) : ¬ PathTo H s l t := by
  intro hl
  have key : ∀ l i, PathTo H s l i → i ∈ F := by
    intro l i hl
    induction hl with
    | start => exact List.mem_of_getElem? h.head
    | step _ _ hj hij ih =>
      obtain ⟨a, ha⟩ := List.getElem?_of_mem ih
      exact h.shut a _ (List.getElem?_eq_some_iff.1 ha).1 ha _ hj hij
  exact (h.lt t (key l t hl)).2 rfl
end
end Go.Proofs.Ytckndnaohggmhaa

/- How far it is still to go, round by round, and the way that is made by it: the first one of the shortest ways. Plain mathematics: no program. -/
namespace Go.Proofs.Ytckndnaohggmhaa

/-- How many places the shortest way to t has, after s rounds; 0: not yet known. -/
def outs (H : Nat → Nat → Bool) (n t : Nat) : Nat → Nat → Nat
  | 0, i => if i = t then 1 else 0
  | s + 1, i => if outs H n t s i = 0 ∧ ((List.range n).any fun k => decide (outs H n t s k = s + 1) && !decide (i = k) && H i k) = true then s + 2 else outs H n t s i
/-- What a round does to one place. -/
def hasStep (H : Nat → Nat → Bool) (n t s i : Nat) : Prop := ∃ k, k < n ∧ outs H n t s k = s + 1 ∧ i ≠ k ∧ H i k = true
section
variable {H : Nat → Nat → Bool} {n t : Nat}
theorem outs_succ (s i : Nat) : (outs H n t s i = 0 ∧ hasStep H n t s i ∧ outs H n t (s + 1) i = s + 2) ∨ ((outs H n t s i ≠ 0 ∨ ¬ hasStep H n t s i) ∧ outs H n t (s + 1) i = outs H n t s i) := by
  have e : ((List.range n).any fun k => decide (outs H n t s k = s + 1) && !decide (i = k) && H i k) = true ↔ hasStep H n t s i := by
    rw [List.any_eq_true]
    constructor
    · rintro ⟨k, hk, h⟩
      simp only [Bool.and_eq_true, decide_eq_true_eq, Bool.not_eq_true', decide_eq_false_iff_not] at h
      exact ⟨k, List.mem_range.1 hk, h.1.1, h.1.2, h.2⟩
    · rintro ⟨k, hk, h1, h2, h3⟩
      exact ⟨k, List.mem_range.2 hk, by simp [h1, h2, h3]⟩
  show _ ∨ (_ ∧ (if _ then _ else _) = _)
  by_cases h : outs H n t s i = 0 ∧ ((List.range n).any fun k => decide (outs H n t s k = s + 1) && !decide (i = k) && H i k) = true
  · left
    refine ⟨h.1, e.1 h.2, ?_⟩
    show (if _ then _ else _) = _
    rw [if_pos h]
  · right
    refine ⟨?_, if_neg h⟩
    by_cases h0 : outs H n t s i = 0
    · exact .inr fun hh => h ⟨h0, e.2 hh⟩
    · exact .inl h0
theorem outs_keep {s i : Nat} (h : outs H n t s i ≠ 0) : outs H n t (s + 1) i = outs H n t s i := by
  rcases outs_succ (H := H) (n := n) (t := t) s i with h1 | h1
  · exact absurd h1.1 h
  · exact h1.2
theorem outs_le : ∀ (s i : Nat), outs H n t s i ≤ s + 1
  | 0, i => by show (if _ then _ else _) ≤ _; split <;> omega
  | s + 1, i => by
    have := outs_le s i
    rcases outs_succ (H := H) (n := n) (t := t) s i with h1 | h1
    · omega
    · omega
theorem outs_t : ∀ s, outs H n t s t = 1
  | 0 => by simp [outs]
  | s + 1 => by
    have := outs_t s
    rw [outs_keep (by omega), this]
theorem outs_near : ∀ (s i j : Nat), j < n → i ≠ j → H i j = true → 0 < outs H n t s j → outs H n t s j ≤ s → 0 < outs H n t s i ∧ outs H n t s i ≤ outs H n t s j + 1
  | 0, i, j, _, _, _, h1, h2 => by omega
  | s + 1, i, j, hj, hij, hH, h1, h2 => by
    rcases outs_succ (H := H) (n := n) (t := t) s j with e | e
    · omega
    · rw [e.2] at h1 h2 ⊢
      by_cases hs : outs H n t s j ≤ s
      · have := outs_near s i j hj hij hH h1 hs
        rw [outs_keep (by omega)]
        exact this
      · have hle := outs_le (H := H) (n := n) (t := t) s i
        rcases outs_succ (H := H) (n := n) (t := t) s i with f | f
        · omega
        · rcases f.1 with f1 | f1
          · omega
          · exact absurd ⟨j, hj, by omega, hij, hH⟩ f1
theorem outs_back : ∀ (s i : Nat), outs H n t s i ≠ 0 → (i = t ∧ outs H n t s i = 1) ∨ ∃ j, j < n ∧ i ≠ j ∧ H i j = true ∧ outs H n t s j ≠ 0 ∧ outs H n t s i = outs H n t s j + 1
  | 0, i, h => by
    left
    by_cases e : i = t
    · subst e; exact ⟨rfl, outs_t 0⟩
    · exact absurd (by simp [outs, e]) h
  | s + 1, i, h => by
    rcases outs_succ (H := H) (n := n) (t := t) s i with e | e
    · right
      obtain ⟨j, hj, h1, h2, h3⟩ := e.2.1
      have e2 := outs_keep (H := H) (n := n) (t := t) (s := s) (i := j) (by omega)
      exact ⟨j, hj, h2, h3, by omega, by omega⟩
    · rw [e.2] at h ⊢
      rcases outs_back s i h with h1 | ⟨j, hj, h2, h3, h4, h5⟩
      · exact .inl h1
      · exact .inr ⟨j, hj, h2, h3, by rw [outs_keep h4]; exact h4, by rw [outs_keep h4]; exact h5⟩
theorem outs_levels (s : Nat) : ∀ (d i : Nat), i < n → outs H n t s i = d → ∀ e, 1 ≤ e → e ≤ d → ∃ j, j < n ∧ outs H n t s j = e
  | 0, _, _, _, e, h1, h2 => by omega
  | d + 1, i, hi, h, e, h1, h2 => by
    by_cases he : e = d + 1
    · exact ⟨i, hi, by omega⟩
    · rcases outs_back (H := H) (n := n) (t := t) s i (by omega) with h3 | ⟨j, hj, _, _, h4, h5⟩
      · omega
      · exact outs_levels s d j hj (by omega) e h1 (by omega)
theorem countP_step {α : Type} (p q : α → Bool) (x : α) : ∀ l : List α, (∀ y, q y = true → p y = true) → x ∈ l → p x = true → q x = false → l.countP q < l.countP p
  | [], _, hx, _, _ => absurd hx (by simp)
  | y :: l, h, hx, hp, hq => by
    have hle : l.countP q ≤ l.countP p := List.countP_mono_left fun z _ => h z
    rw [List.countP_cons, List.countP_cons]
    rcases List.mem_cons.1 hx with e | hx'
    · subst e
      simp [hp, hq]
      omega
    · have := countP_step p q x l h hx' hp hq
      by_cases hy : q y = true
      · simp [hy, h y hy]; omega
      · simp [hy]; split <;> omega
theorem outs_count (s d i : Nat) (hi : i < n) (h : outs H n t s i = d) : ∀ e, e ≤ d → e ≤ (List.range n).countP fun j => decide (outs H n t s j ≠ 0 ∧ outs H n t s j ≤ e)
  | 0, _ => by omega
  | e + 1, he => by
    have ih := outs_count s d i hi h e (by omega)
    obtain ⟨j, hj, hje⟩ := outs_levels s d i hi h (e + 1) (by omega) he
    have := countP_step (fun j => decide (outs H n t s j ≠ 0 ∧ outs H n t s j ≤ e + 1)) (fun j => decide (outs H n t s j ≠ 0 ∧ outs H n t s j ≤ e)) j (List.range n)
      (fun y hy => by simp at hy ⊢; omega) (List.mem_range.2 hj) (by simp; omega) (by simp; omega)
    omega
/-- After as many rounds as there are other places nothing is missing. -/
theorem outs_full (h1 : 1 ≤ n) {i j : Nat} (hi : i < n) (hj : j < n) (hij : i ≠ j) (hH : H i j = true) (h0 : outs H n t (n - 1) j ≠ 0) : outs H n t (n - 1) i ≠ 0 ∧ outs H n t (n - 1) i ≤ outs H n t (n - 1) j + 1 := by
  by_cases hd : outs H n t (n - 1) j ≤ n - 1
  · have := outs_near (H := H) (n := n) (t := t) (n - 1) i j hj hij hH (by omega) hd
    omega
  · have hle := outs_le (H := H) (n := n) (t := t) (n - 1) j
    have hlei := outs_le (H := H) (n := n) (t := t) (n - 1) i
    have hc := outs_count (H := H) (t := t) (n - 1) _ j hj rfl n (by omega)
    have hc2 : (List.range n).countP (fun j => decide (outs H n t (n - 1) j ≠ 0 ∧ outs H n t (n - 1) j ≤ n)) = (List.range n).length := by
      have := List.countP_le_length (p := fun j => decide (outs H n t (n - 1) j ≠ 0 ∧ outs H n t (n - 1) j ≤ n)) (l := List.range n)
      rw [List.length_range] at this ⊢
      omega
    have := List.countP_eq_length.1 hc2 i (List.mem_range.2 hi)
    simp at this
    omega

/-- The next place of the way: the least one that is nearer. -/
def nextOf (H : Nat → Nat → Bool) (n : Nat) (out : Nat → Nat) (i : Nat) : Nat := ((List.range n).find? fun p => !decide (p = i) && decide (out p + 1 = out i) && !decide (out p = 0) && H i p).getD 0
def goFrom (H : Nat → Nat → Bool) (n : Nat) (out : Nat → Nat) : Nat → Nat → List Nat
  | 0, _ => []
  | 1, i => [i]
  | d + 2, i => i :: goFrom H n out (d + 1) (nextOf H n out i)
theorem find_range {p : Nat → Bool} {n j : Nat} (hj : j < n) (hp : p j = true) : ∃ k, (List.range n).find? p = some k ∧ k ≤ j ∧ p k = true ∧ k < n := by
  cases h : (List.range n).find? p with
  | none =>
    have := List.find?_eq_none.1 h j (List.mem_range.2 hj)
    exact absurd hp this
  | some k =>
    have h1 := List.find?_some h
    have hk := List.mem_range.1 (List.mem_of_find?_eq_some h)
    refine ⟨k, rfl, ?_, h1, hk⟩
    rw [List.find?_range_eq_some] at h
    rcases Nat.lt_or_ge j k with hlt | hge
    · have := h.2.2 j hlt
      simp [hp] at this
    · exact hge
theorem path_outs (h1 : 1 ≤ n) (hHn : ∀ i j, H i j = true → i < n ∧ j < n ∧ i ≠ j) {m : List Nat} {i : Nat} (h : PathFrom H t m i) : outs H n t (n - 1) i ≠ 0 ∧ outs H n t (n - 1) i ≤ m.length := by
  induction h with
  | stop => rw [outs_t]; simp
  | step _ _ _ hij ih =>
    obtain ⟨a, b, c⟩ := hHn _ _ hij
    have := outs_full h1 a b c hij ih.1
    simp only [List.length_cons]
    omega
theorem goFrom_first (h1 : 1 ≤ n) (hn : n ≤ 12) (ht : t < n) (hHn : ∀ i j, H i j = true → i < n ∧ j < n ∧ i ≠ j) : ∀ (d i : Nat), i < n → d ≠ 0 → outs H n t (n - 1) i = d →
    PathFrom H t (goFrom H n (outs H n t (n - 1)) d i) i ∧ (goFrom H n (outs H n t (n - 1)) d i).length = d ∧ ∀ m, PathFrom H t m i → key (goFrom H n (outs H n t (n - 1)) d i) ≤ key m
  | 0, i, _, h0, _ => absurd rfl h0
  | 1, i, hi, _, h => by
    have e : i = t := by
      rcases outs_back (H := H) (n := n) (t := t) (n - 1) i (by omega) with h3 | ⟨j, hj, _, _, h4, h5⟩
      · exact h3.1
      · omega
    subst e
    refine ⟨.stop, rfl, fun m hm => ?_⟩
    obtain ⟨m', rfl⟩ := hm.cons
    show key [i] ≤ _
    rw [key_cons, key_cons]
    have : i + 1 ≤ (i + 1) * 13 ^ m'.length := Nat.le_mul_of_pos_right _ (Nat.pow_pos (by omega))
    simp [key, keyR]
    omega
  | d + 2, i, hi, _, h => by
    have hne : i ≠ t := fun e => by subst e; rw [outs_t] at h; omega
    have hex : ∃ j, j < n ∧ i ≠ j ∧ H i j = true ∧ outs H n t (n - 1) j ≠ 0 ∧ outs H n t (n - 1) i = outs H n t (n - 1) j + 1 := by
      rcases outs_back (H := H) (n := n) (t := t) (n - 1) i (by omega) with h3 | h3
      · exact absurd h3.1 hne
      · exact h3
    have hcand : ∀ j, j < n → i ≠ j → H i j = true → outs H n t (n - 1) j ≠ 0 → outs H n t (n - 1) i = outs H n t (n - 1) j + 1 → ∃ k, nextOf H n (outs H n t (n - 1)) i = k ∧ k ≤ j ∧ k < n ∧ i ≠ k ∧ H i k = true ∧ outs H n t (n - 1) k = d + 1 := by
      intro j hj h2 h3 h4 h5
      obtain ⟨k, hk1, hk2, hk3, hk4⟩ := find_range (p := fun p => !decide (p = i) && decide (outs H n t (n - 1) p + 1 = outs H n t (n - 1) i) && !decide (outs H n t (n - 1) p = 0) && H i p) hj (by simp [h3, h4, h5]; exact fun e => h2 e.symm)
      simp at hk3
      exact ⟨k, by rw [nextOf, hk1]; rfl, hk2, hk4, fun e => hk3.1.1.1 e.symm, hk3.2, by omega⟩
    obtain ⟨j0, hj0, a1, a2, a3, a4⟩ := hex
    obtain ⟨k, hk, _, hkn, hik, hHk, hok⟩ := hcand j0 hj0 a1 a2 a3 a4
    obtain ⟨b1, b2, b3⟩ := goFrom_first h1 hn ht hHn (d + 1) k hkn (by omega) hok
    have e : goFrom H n (outs H n t (n - 1)) (d + 2) i = i :: goFrom H n (outs H n t (n - 1)) (d + 1) k := by rw [← hk]; rfl
    rw [e]
    have hp : PathFrom H t (i :: goFrom H n (outs H n t (n - 1)) (d + 1) k) i := .step b1 (by omega) (by omega) hHk
    refine ⟨hp, by simp [b2], fun m hm => ?_⟩
    cases hm with
    | stop => exact absurd rfl hne
    | step hm' hi2 hj2 hij =>
      rename_i l j
      obtain ⟨_, hjn, hij'⟩ := hHn _ _ hij
      obtain ⟨c1, c2⟩ := path_outs h1 hHn hm'
      have c3 := (outs_full h1 hi hjn hij' hij c1).2
      have hb12 := (b1.lt (by omega)).2
      by_cases hlen : l.length = d + 1
      · obtain ⟨k', hk', hk'j, _⟩ := hcand j hjn hij' hij c1 (by omega)
        have ekk : k' = k := hk'.symm.trans hk
        subst ekk
        have hle : key (goFrom H n (outs H n t (n - 1)) (d + 1) k') ≤ key l := by
          by_cases ekj : k' = j
          · subst ekj
            exact b3 _ hm'
          · obtain ⟨x, hx⟩ := b1.cons
            obtain ⟨y, hy⟩ := hm'.cons
            rw [hx] at b2 hb12 ⊢
            rw [hy] at hlen ⊢
            simp at b2 hlen
            exact Nat.le_of_lt (key_lex (fun z hz => hb12 z (by simp [hz])) (by omega) (by omega))
        rw [key_cons, key_cons, b2, hlen]
        omega
      · refine Nat.le_of_lt (key_long (hp.lt (by omega)).2 ?_)
        simp [b2]
        omega

/-- The way that is made by how far it is still to go; none: []. -/
def wayOf (H : Nat → Nat → Bool) (n s t : Nat) : List Nat := goFrom H n (outs H n t (n - 1)) (outs H n t (n - 1) s) s
theorem wayOf_none (h1 : 1 ≤ n) (hHn : ∀ i j, H i j = true → i < n ∧ j < n ∧ i ≠ j) {s : Nat} : outs H n t (n - 1) s = 0 → ∀ l, ¬ PathTo H s l t :=
  fun h _ hl => (path_outs h1 hHn hl.toFrom).1 h
theorem wayOf_first (h1 : 1 ≤ n) (hn : n ≤ 12) (ht : t < n) (hHn : ∀ i j, H i j = true → i < n ∧ j < n ∧ i ≠ j) {s : Nat} (hs : s < n) (h : outs H n t (n - 1) s ≠ 0) : FirstWay H s t (wayOf H n s t) := by
  obtain ⟨a, _, c⟩ := goFrom_first h1 hn ht hHn _ s hs h rfl
  exact ⟨a.toTo, fun m hm => c m hm.toFrom⟩
/-- What was found is what is made so. -/
theorem found_wayOf (h1 : 1 ≤ n) (hn : n ≤ 12) (ht : t < n) (hHn : ∀ i j, H i j = true → i < n ∧ j < n ∧ i ≠ j) {s : Nat} (hs : s < n) {l : List Nat} (h : FirstWay H s t l) : l = wayOf H n s t ∧ outs H n t (n - 1) s ≠ 0 := by
  have h0 : outs H n t (n - 1) s ≠ 0 := fun e => wayOf_none h1 hHn e l h.1
  exact ⟨h.one (by omega) (wayOf_first h1 hn ht hHn hs h0), h0⟩
theorem none_wayOf (h1 : 1 ≤ n) (hn : n ≤ 12) (ht : t < n) (hHn : ∀ i j, H i j = true → i < n ∧ j < n ∧ i ≠ j) {s : Nat} (hs : s < n) (h : ∀ l, ¬ PathTo H s l t) : wayOf H n s t = [] ∧ outs H n t (n - 1) s = 0 := by
  have h0 : outs H n t (n - 1) s = 0 := Decidable.byContradiction fun e => h _ (wayOf_first h1 hn ht hHn hs e).1
  exact ⟨by rw [wayOf, h0]; rfl, h0⟩
end
end Go.Proofs.Ytckndnaohggmhaa
