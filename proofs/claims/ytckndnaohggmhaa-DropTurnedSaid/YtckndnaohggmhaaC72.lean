/- Texts of the package drop, joined: TurnLaw. -/
import Derived.Test.YtckndnaohggmhaaC10
import Derived.Test.YtckndnaohggmhaaC14
import Derived.Test.YtckndnaohggmhaaC27
import Derived.Test.YtckndnaohggmhaaC34
import Derived.Test.YtckndnaohggmhaaC35
/- Two laws: a drawing region some of whose operations store, in any order; a field of a struct variable that is appended to. -/
namespace Go.Proofs.Ytckndnaohggmhaa
open Go.RowKit Go.Shelf

section
variable {P : Program} {ops : Array Oper} {Q : Exit → Act → World → Prop}

/-- Each operation has a slot of its own, or, if it stores, none; none is guarded; each waits for earlier ones alone. -/
def memB (ops : Array Oper) (pure : Nat → Bool) (D : Nat → Tmp) (n : Nat) : Bool :=
  (List.range ops.size).all fun i => match ops[i]? with
    | some o => (match o.dst with | some d => decide (d = D i) && decide (d < n) | none => !pure i) && o.guard.isNone && (o.after.toList.all fun e => !Region.binds .any e || decide (e.on < i)) && (List.range ops.size).all fun j => decide (j = i) || decide (D j ≠ D i)
    | none => false
theorem memB_spec {pure : Nat → Bool} {D : Nat → Tmp} {n : Nat} (h : memB ops pure D n = true) {i : Nat} {o : Oper} (ho : ops[i]? = some o) :
    (pure i = true → o.dst = some (D i)) ∧ (o.dst = none ∨ (o.dst = some (D i) ∧ D i < n)) ∧ o.guard = none ∧ (∀ e ∈ o.after, Region.binds .any e = true → e.on < i) ∧ ∀ j, j < ops.size → j ≠ i → D j ≠ D i := by
  have h1 := List.all_eq_true.1 h i (List.mem_range.2 (Array.getElem?_eq_some_iff.1 ho).1)
  rw [ho] at h1
  simp only [Bool.and_eq_true, List.all_eq_true, Bool.or_eq_true, decide_eq_true_eq, Bool.not_eq_true', Option.isNone_iff_eq_none, List.mem_range] at h1
  obtain ⟨⟨⟨h1, h2⟩, h3⟩, h4⟩ := h1
  refine ⟨fun hp => ?_, ?_, h2, fun e he hb => ?_, fun j hj hne => ?_⟩
  · cases hd : o.dst with
    | none => rw [hd] at h1; simp [hp] at h1
    | some d => rw [hd] at h1; simp at h1; rw [h1.1]
  · cases hd : o.dst with
    | none => exact .inl rfl
    | some d => rw [hd] at h1; simp at h1; right; rw [← h1.1]; exact ⟨rfl, h1.2⟩
  · rcases h3 e (by simpa using he) with h | h
    · rw [hb] at h; cases h
    · exact h
  · rcases h4 j hj with h | h
    · exact absurd h hne
    · exact h

structure MemI (ops : Array Oper) (pure : Nat → Bool) (V : Nat → Value) (D : Nat → Tmp) (W0 : World) (Mem : (Nat → Bool) → Act → World → Prop) (a0 : Act) (listed : Array Bool) (a : Act) (W : World) : Prop where
  size : listed.size = ops.size
  tmps : a.tmps.size = a0.tmps.size
  defers : a.defers = a0.defers
  base : Ext W0 W
  old : ∀ t, (∀ i, i < ops.size → D i ≠ t) → a.eval (.tmp t) = a0.eval (.tmp t)
  got : ∀ i, i < ops.size → pure i = true → listed.getD i false = true → a.eval (.tmp (D i)) = V i
  mem : Mem (fun i => listed.getD i false) a W

theorem listed_set {l : Array Bool} {i : Nat} (h : i < l.size) : (fun j => (l.setIfInBounds i true).getD j false) = fun j => decide (j = i) || l.getD j false := by
  funext j
  by_cases e : i = j
  · subst e; simp [h]
  · rw [getD_set_ne false e, decide_eq_false (fun e' : j = i => e e'.symm)]
    rfl

theorem wp_region_mem {id : Nat} {a : Act} {w W0 : World} (pure : Nat → Bool) (V : Nat → Value) (D : Nat → Tmp) (Mem : (Nat → Bool) → Act → World → Prop) (hm : P.follows .mixedOrders = true) (hs : memB ops pure D a.tmps.size = true)
    (hB0 : Ext W0 { w with drawn := w.drawn + 1 }) (hM0 : Mem (fun _ => false) a { w with drawn := w.drawn + 1 })
    (stay : ∀ (L : Nat → Bool) (a' : Act) (W W' : World) (i : Nat) (v : Value), i < ops.size → pure i = true → Mem L a' W → Ext W0 W → Below W.heap.size W W' → a'.tmps.size = a.tmps.size → Mem (fun j => decide (j = i) || L j) (a'.put (some (D i)) v) W')
    (step : ∀ (i : Nat) (o : Oper), ops[i]? = some o → pure i = true → ∀ (a' : Act) (W : World), Ext W0 W → a'.tmps.size = a.tmps.size → (∀ t, ((List.range ops.size).all fun i => decide (D i ≠ t)) = true → a'.eval (.tmp t) = a.eval (.tmp t)) →
      (∀ j, (o.after.any fun e => decide (e.on = j) && Region.binds .any e) = true → pure j = true → a'.eval (.tmp (D j)) = V j) →
      o.wp P a' W (fun a'' W' => ∃ v, a'' = a'.put o.dst v ∧ v = V i ∧ Below W.heap.size W W') Q)
    (act : ∀ (i : Nat) (o : Oper), ops[i]? = some o → pure i = false → ∀ (L : Nat → Bool) (a' : Act) (W : World), Ext W0 W → a'.tmps.size = a.tmps.size → (∀ t, ((List.range ops.size).all fun i => decide (D i ≠ t)) = true → a'.eval (.tmp t) = a.eval (.tmp t)) →
      (∀ j, (o.after.any fun e => decide (e.on = j) && Region.binds .any e) = true → L j = true ∧ (pure j = true → a'.eval (.tmp (D j)) = V j)) → L i = false → Mem L a' W →
      o.wp P a' W (fun a'' W' => ∃ v, a'' = a'.put o.dst v ∧ Ext W0 W' ∧ Mem (fun j => decide (j = i) || L j) a'' W') Q)
    (done : ∀ (a' : Act) (W : World), Ext W0 W → a'.tmps.size = a.tmps.size → a'.defers = a.defers → (∀ t, ((List.range ops.size).all fun i => decide (D i ≠ t)) = true → a'.eval (.tmp t) = a.eval (.tmp t)) →
      (∀ i, i < ops.size → pure i = true → a'.eval (.tmp (D i)) = V i) → Mem (fun i => decide (i < ops.size)) a' W → Q .normal a' W) : (Code.region id ops true).wp P Q a w := by
  have hoT : ∀ t, ((List.range ops.size).all fun i => decide (D i ≠ t)) = true → ∀ i, i < ops.size → D i ≠ t := fun t ht i hi => by
    simpa using List.all_eq_true.1 ht i (List.mem_range.2 hi)
  refine wp_region_any hm ?_
  have aux : ∀ (fuel : Nat) (listed : Array Bool) (a' : Act) (W : World), MemI ops pure V D W0 Mem a listed a' W → (List.range ops.size).countP (fun i => !listed.getD i true) ≤ fuel → wpAny P .any ops Q fuel listed a' W := by
    intro fuel
    have fin : ∀ (listed : Array Bool) (a' : Act) (W : World), MemI ops pure V D W0 Mem a listed a' W → (∀ i, i < ops.size → listed.getD i false = true) → Q .normal a' W := by
      intro listed a' W h all
      refine done a' W h.base h.tmps h.defers (fun t ht => h.old t (hoT t ht)) (fun i hi hp => h.got i hi hp (all i hi)) ?_
      have e : (fun i => listed.getD i false) = fun i => decide (i < ops.size) := by
        funext i
        by_cases hi : i < ops.size
        · rw [all i hi]; simp [hi]
        · have : ¬ i < listed.size := by rw [h.size]; exact hi
          simp [this, hi]
      rw [← e]
      exact h.mem
    have stop : ∀ (listed : Array Bool), listed.size = ops.size → (∀ i, i < ops.size → listed.getD i false = true) → Region.ready .any ops listed = [] := by
      intro listed hsz all
      refine List.eq_nil_iff_forall_not_mem.2 fun i hi => ?_
      obtain ⟨g1, o, ho, _⟩ := mem_ready.1 hi
      have hil := (Array.getElem?_eq_some_iff.1 ho).1
      rw [getD_two (by rw [hsz]; exact hil), all i hil] at g1
      cases g1
    induction fuel with
    | zero =>
      intro listed a' W h hc
      have h0 : (List.range ops.size).countP (fun i => !listed.getD i true) = 0 := by omega
      have all : ∀ i, i < ops.size → listed.getD i false = true := fun i hi => by
        have := List.countP_eq_zero.1 h0 i (List.mem_range.2 hi)
        rw [getD_two (by rw [h.size]; omega)] at this
        simpa using this
      exact wpAny_done (stop listed h.size all) (fin listed a' W h all) 0
    | succ fuel ih =>
      intro listed a' W h hc
      by_cases hall : ∀ i, i < ops.size → listed.getD i false = true
      · exact wpAny_done (stop listed h.size hall) (fin listed a' W h hall) _
      · have hne : Region.ready .any ops listed ≠ [] := by
          intro hr
          apply hall
          have all : ∀ n i, i ≤ n → i < ops.size → listed.getD i false = true := by
            intro n
            induction n using Nat.strongRecOn with
            | _ n ih2 =>
              intro i hin hi
              cases hl : listed.getD i false with
              | true => rfl
              | false =>
                exfalso
                have : i ∈ Region.ready .any ops listed := mem_ready.2 ⟨by rw [getD_two (by rw [h.size]; exact hi), hl], _, Array.getElem?_eq_getElem hi, fun e he hb => by
                  have := (memB_spec hs (Array.getElem?_eq_getElem hi)).2.2.2.1 e he hb
                  exact ih2 e.on (by omega) e.on (Nat.le_refl _) (by omega)⟩
                rw [hr] at this
                cases this
          exact fun i hi => all i i (Nat.le_refl _) hi
        refine ⟨fun e => absurd e hne, fun i hi => ?_⟩
        obtain ⟨h1, o, ho, haft⟩ := mem_ready.1 hi
        have hil := (Array.getElem?_eq_some_iff.1 ho).1
        have hls : i < listed.size := by rw [h.size]; exact hil
        obtain ⟨hd1, hd2, hgd, _, hdist⟩ := memB_spec hs ho
        have haf : ∀ j, (o.after.any fun e => decide (e.on = j) && Region.binds .any e) = true → listed.getD j false = true := fun j hj => by
          obtain ⟨e, he, hb⟩ := Array.any_eq_true'.1 hj
          simp only [Bool.and_eq_true, decide_eq_true_eq] at hb
          obtain ⟨rfl, hb⟩ := hb
          exact haft e he hb
        have hlt : ∀ j, listed.getD j false = true → j < ops.size := fun j hj => by
          by_cases hj2 : j < listed.size
          · rw [← h.size]; exact hj2
          · simp [hj2] at hj
        have hw : Region.wanted o (yielded ops a'.tmps) = true := by simp [Region.wanted, hgd]
        have hli : listed.getD i false = false := by rwa [← getD_two hls]
        have hcount : (List.range ops.size).countP (fun k => !(listed.setIfInBounds i true).getD k true) < (List.range ops.size).countP (fun k => !listed.getD k true) := by
          refine countP_step _ _ i _ (fun y hy => ?_) (List.mem_range.2 hil) (by simp [h1]) ?_
          · by_cases e : i = y
            · subst e; simp [h1]
            · rw [getD_set_ne true e] at hy; exact hy
          · simp [hls]
        unfold wpOp
        rw [ho]
        simp only [hw, if_true]
        left
        have next : ∀ (v : Value) (W' : World), Ext W0 W' → Mem (fun j => decide (j = i) || listed.getD j false) (a'.put o.dst v) W' → (pure i = true → v = V i) → wpAny P .any ops Q fuel (listed.setIfInBounds i true) (a'.put o.dst v) W' := by
          intro v W' hE hM hv
          refine ih _ _ _ ⟨by simp [h.size], ?_, ?_, hE, fun t ht => ?_, fun j hj hp hl => ?_, by rw [listed_set hls]; exact hM⟩ (by omega)
          · rcases hd2 with e | e
            · rw [e]; exact h.tmps
            · rw [e.1]; simp [Act.put, h.tmps]
          · rcases hd2 with e | e
            · rw [e]; exact h.defers
            · rw [e.1]; exact h.defers
          · rcases hd2 with e | e
            · rw [e]; exact h.old t ht
            · rw [e.1, eval_put_other (Ne.symm (ht i hil))]
              exact h.old t ht
          · by_cases e : i = j
            · subst e
              have hlt2 : D i < a'.tmps.size := by
                rw [h.tmps]
                rcases hd2 with e | e
                · rw [hd1 hp] at e; cases e
                · exact e.2
              rw [hd1 hp, eval_put_same hlt2]
              exact hv hp
            · rw [getD_set_ne false e] at hl
              rcases hd2 with e2 | e2
              · rw [e2]; exact h.got j hj hp hl
              · rw [e2.1, eval_put_other (hdist j hj (fun e3 => e e3.symm))]
                exact h.got j hj hp hl
        cases hp : pure i with
        | true =>
          refine Oper.wp_mono (fun a'' W' hh => ?_) (step i o ho hp a' W h.base h.tmps (fun t ht => h.old t (hoT t ht)) fun j hj hpj => h.got j (hlt j (haf j hj)) hpj (haf j hj))
          obtain ⟨v, rfl, hv, hb⟩ := hh
          refine next v W' (h.base.trans hb) ?_ fun _ => hv
          rw [hd1 hp]
          exact stay _ a' W W' i v hil hp h.mem h.base hb h.tmps
        | false =>
          refine Oper.wp_mono (fun a'' W' hh => ?_) (act i o ho hp _ a' W h.base h.tmps (fun t ht => h.old t (hoT t ht)) (fun j hj => ⟨haf j hj, fun hpj => h.got j (hlt j (haf j hj)) hpj (haf j hj)⟩) hli h.mem)
          obtain ⟨v, rfl, hE, hM⟩ := hh
          exact next v W' hE hM fun e => by rw [hp] at e; cases e
  exact aux ops.size _ a _ ⟨by simp, rfl, rfl, hB0, fun _ _ => rfl, fun i hi _ hl => (by rw [getD_replicate_false] at hl; cases hl), by
      have e : (fun i => (Array.replicate ops.size false).getD i false) = fun _ => false := by
        funext i
        exact getD_replicate_false _ _
      rw [e]
      exact hM0⟩ (by
    have := List.countP_le_length (p := fun i => !(Array.replicate ops.size false).getD i true) (l := List.range ops.size)
    simpa using this)
end

/-- A row of another element type stays when a cell of a variable turns. -/
theorem owns_set {W : World} {base : Nat} {e : TypeId} {size n : Nat} {v : Value} {xs : List Value} (h : W.ownsRow base e size v n xs) {p o : Nat} {u : Value} {cs : Array Value} {t : TypeId} (hp : W.heap[p]? = some (.cells cs t (0, 0))) (ht : t ≠ e) : (W.setCell ⟨p, o, none⟩ u).ownsRow base e size v n xs := by
  refine ⟨h.1, h.2.imp id ?_⟩
  rintro ⟨g, cap, cur, hv, hb, hrow, q⟩
  refine ⟨g, cap, cur, hv, hb, (heap_set_other W p o g u (fun e' => ?_)).trans hrow, q⟩
  subst e'
  rw [hp] at hrow
  simp only [Option.some.injEq, Obj.cells.injEq] at hrow
  exact ht hrow.2.1
theorem own_lt {W : World} {base : Nat} {e : TypeId} {size n : Nat} {v : Value} {xs : List Value} (h : W.ownsRow base e size v n xs) : ∀ r, v.ownBlock = some r → base ≤ r ∧ r < W.heap.size := by
  intro r hr
  rcases h.2 with ⟨rfl, _⟩ | ⟨g, cap, cur, rfl, hb, hrow, _⟩
  · simp [Value.ownBlock] at hr
  · simp [Value.ownBlock] at hr
    subst hr
    exact ⟨hb, (Array.getElem?_eq_some_iff.1 hrow).1⟩

/-- What a field's slice is appended to: the last three operations of such a statement. -/
theorem wp_tail_field {ops : Array Oper} {Q : Exit → Act → World → Prop} {o1 o2 o3 : Oper} {a : Act} {V wb : World} {T e : TypeId} {size bytes s x pv d1 d2 f px n g2 : Nat} {i0 : TypeInfo} {z v : Value} {xs news : List Value} {c0 c1 c2 : Value}
    (hg1 : o1.guard = none) (hg2 : o2.guard = none) (hg3 : o3.guard = none)
    (ho1 : o1.op = .call { callee := .builtin .append, args := #[.tmp s, .tmp x], argTypes := #[T, T] }) (ho2 : o2.op = .fieldAddr 25 (.tmp pv) f) (ho3 : o3.op = .store T (.tmp d2) (.tmp d1))
    (hd1 : o1.dst = some d1) (hd2 : o2.dst = some d2) (hd3 : o3.dst = none) (hlt1 : d1 < a.tmps.size) (hlt2 : d2 < a.tmps.size) (hpd : pv ≠ d1) (h12 : d1 ≠ d2) (hf : f = 1 ∨ f = 2)
    (hT : (T = 22 ∧ f = 1) ∨ (T = 23 ∧ f = 2)) (ht : Try.prog.underlying T = some (.slice e)) (hi : Try.prog.info? e = some i0) (hz : i0.zero = some z) (hsize : i0.size = size) (hby : i0.bytes = bytes) (hzs : z.cells.size = size) (hsz : 0 < size)
    (es : a.eval (.tmp s) = v) (hown : V.ownsRow wb.heap.size e size v n xs) (ex : a.eval (.tmp x) = .slice (some ⟨g2, 0, none⟩) 1 1) (hnew : V.heap[g2]? = some (.cells news.toArray e (0, 0))) (hl : news.length = size) (h1 : ∀ u ∈ news, u.oneCell' = true)
    (hn : n ≤ 1000) (hb1 : bytes ≤ 100) (hE : Ext wb V) (ep : a.eval (.tmp pv) = .pointer (some ⟨px, 0, none⟩)) (hpx : V.heap[px]? = some (.cells #[c0, c1, c2] 25 (0, 0))) (hbp : wb.heap.size ≤ px) (he : (25 : Nat) ≠ e)
    (K : ∀ g cap V', V'.ownsRow wb.heap.size e size (.slice (some ⟨g, 0, none⟩) (n + 1) cap) (n + 1) (xs ++ news) → V'.heap[px]? = some (.cells (#[c0, c1, c2].setIfInBounds f (.slice (some ⟨g, 0, none⟩) (n + 1) cap)) 25 (0, 0)) →
      (∀ b, b < V.heap.size → b ≠ px → some b ≠ v.ownBlock → V'.heap[b]? = V.heap[b]?) → (v.ownBlock = some g ∨ g = V.heap.size) → V.heap.size ≤ V'.heap.size → Ext wb V' →
      Q .normal ((a.put (some d1) (.slice (some ⟨g, 0, none⟩) (n + 1) cap)).put (some d2) (.pointer (some ⟨px, f, none⟩))) V') : wpList Try.prog ops Q [o1, o2, o3] a V := by
  refine wpList_tail hg1 (step_append_lies V hg1 (.tmp s) (.tmp x) T ho1 wb.heap.size e i0 z size bytes ht hi hz hsize hby hzs hsz v n xs es hown ⟨g2, 0, none⟩ 1 1 news ex (by omega) (by
    have := World.news_of_block hnew
    simpa using this) h1 (by omega) (by unfold maxLen; omega) (by
    have : (n + 1) * bytes ≤ 1001 * 100 := Nat.mul_le_mul (by omega) hb1
    omega) hE.size V.heap.size rfl ?_)
  intro g cap V' hown' hgr hor hglt
  rw [hd1]
  obtain ⟨a1, ha1⟩ : ∃ a1, a.put (some d1) (.slice (some ⟨g, 0, none⟩) (n + 1) cap) = a1 := ⟨_, rfl⟩
  have ep1 : a1.eval (.tmp pv) = .pointer (some ⟨px, 0, none⟩) := by rw [← ha1]; exact (eval_put_other hpd).trans ep
  have e1 : a1.eval (.tmp d1) = .slice (some ⟨g, 0, none⟩) (n + 1) cap := by rw [← ha1]; exact eval_put_same hlt1
  have hl1 : a1.tmps.size = a.tmps.size := by rw [← ha1]; simp [Act.put]
  have hpxl := (Array.getElem?_eq_some_iff.1 hpx).1
  have hpx' : V'.heap[px]? = some (.cells #[c0, c1, c2] 25 (0, 0)) := (hgr.block px hpxl (fun e' => by
    obtain ⟨cs, fr, h⟩ := own_block hown px e'.symm
    rw [hpx] at h
    simp only [Option.some.injEq, Obj.cells.injEq] at h
    exact he h.2.1)).trans hpx
  have hE' : Ext wb V' := hE.grown hgr hE.size fun r e => (own_lt hown r e).1
  rw [ha1]
  have hK := K g cap (V'.setCell ⟨px, f, none⟩ (.slice (some ⟨g, 0, none⟩) (n + 1) cap)) (owns_set hown' hpx' he) (by
      rw [row_setCell _ _ _ _ _ _ _ hpx']) (fun b hb hne hnb => (heap_set_other V' px f b _ hne).trans (hgr.block b hb hnb)) hor (by
      have := hgr.size
      simpa [World.setCell] using this) (Below.setCell hE' hbp _)
  rw [ha1] at hK
  have fz : ∀ f, V'.frozen? ⟨px, f, none⟩ = false := fun f => by simp [World.frozen?, hpx']
  rcases hf with rfl | rfl
  · have hTT : T = 22 := by
      rcases hT with h | h
      · exact h.1
      · exact absurd h.2 (by decide)
    subst hTT
    refine wpList_value (v := .pointer (some ⟨px, 1, none⟩)) (w' := V') hg2 (by simp [execOp, ho2, go_sem, ev ep1]) ?_
    rw [hd2]
    obtain ⟨a2, ha2⟩ : ∃ a2, a1.put (some d2) (.pointer (some ⟨px, 1, none⟩)) = a2 := ⟨_, rfl⟩
    have e2a : a2.eval (.tmp d1) = .slice (some ⟨g, 0, none⟩) (n + 1) cap := by rw [← ha2]; exact (eval_put_other h12).trans e1
    have e2b : a2.eval (.tmp d2) = .pointer (some ⟨px, 1, none⟩) := by rw [← ha2]; exact eval_put_same (by rw [hl1]; exact hlt2)
    rw [ha2] at hK ⊢
    have fz1 := fz 1
    have hc : V'.cell? ⟨px, 1, none⟩ = some c1 := cell_of_row _ _ _ _ _ _ hpx'
    refine wpList_skip (w' := V'.setCell ⟨px, 1, none⟩ (.slice (some ⟨g, 0, none⟩) (n + 1) cap)) hg3 (by simp [execOp, ho3, go_sem, ev e2a, ev e2b, fz1, hc]) ?_
    rw [hd3]
    exact hK
  · have hTT : T = 23 := by
      rcases hT with h | h
      · exact absurd h.2 (by decide)
      · exact h.1
    subst hTT
    refine wpList_value (v := .pointer (some ⟨px, 2, none⟩)) (w' := V') hg2 (by simp [execOp, ho2, go_sem, ev ep1]) ?_
    rw [hd2]
    obtain ⟨a2, ha2⟩ : ∃ a2, a1.put (some d2) (.pointer (some ⟨px, 2, none⟩)) = a2 := ⟨_, rfl⟩
    have e2a : a2.eval (.tmp d1) = .slice (some ⟨g, 0, none⟩) (n + 1) cap := by rw [← ha2]; exact (eval_put_other h12).trans e1
    have e2b : a2.eval (.tmp d2) = .pointer (some ⟨px, 2, none⟩) := by rw [← ha2]; exact eval_put_same (by rw [hl1]; exact hlt2)
    rw [ha2] at hK ⊢
    have fz1 := fz 2
    have hc : V'.cell? ⟨px, 2, none⟩ = some c2 := cell_of_row _ _ _ _ _ _ hpx'
    refine wpList_skip (w' := V'.setCell ⟨px, 2, none⟩ (.slice (some ⟨g, 0, none⟩) (n + 1) cap)) hg3 (by simp [execOp, ho3, go_sem, ev e2a, ev e2b, fz1, hc]) ?_
    rw [hd3]
    exact hK
end Go.Proofs.Ytckndnaohggmhaa
