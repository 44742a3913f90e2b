/- Texts of one package, joined: ChoiceKey, SetNo. -/
import Derived.Test.YtlaakmgdbhabfaaC11
import Derived.Maps.OwnSet
import Derived.WideKeyArr
import Derived.DeepKeys4
/- The map of how many rows have the same marks: its keys, and what it holds. -/
namespace Go.Proofs.Ytlaakmgdbhabfaa
open Go.RowKit Go.Shelf Go.Maps Go.ChangeMaps

theorem arrKey92 : WideMaps.ArrKey Try.prog 92 3 12 := ⟨by kernel_rfl, by kernel_rfl, by kernel_rfl, by kernel_rfl⟩
theorem law92 : Keyed Try.prog 92 := Keyed.of_law arrKey92.law
theorem under136 : Try.prog.underlying 136 = some (.map 92 2) := by kernel_rfl
theorem under2 : Try.prog.underlying 2 = some (.int .i64) := by kernel_rfl
theorem zero2 (w : World) : (zeroValue 2).run Try.prog w = .ok (.int .i64 0) w := by kernel_rfl

def bitInt (b : Bool) : Int := if b = true then 1 else 0
theorem bitInt_wf (b : Bool) : (Lit.int .i64 (bitInt b)).wf = true := by cases b <;> decide
/-- What marks read as, as a key. -/
def klOf (M : Nat → Bool) : Lit := .string (keyBytes ((List.range 12).map fun i => Lit.int .i64 (bitInt (M i))))
theorem key_twelve (b0 b1 b2 b3 b4 b5 b6 b7 b8 b9 b10 b11 : Int) (w0 : (Lit.int .i64 b0).wf = true) (w1 : (Lit.int .i64 b1).wf = true) (w2 : (Lit.int .i64 b2).wf = true) (w3 : (Lit.int .i64 b3).wf = true) (w4 : (Lit.int .i64 b4).wf = true) (w5 : (Lit.int .i64 b5).wf = true) (w6 : (Lit.int .i64 b6).wf = true) (w7 : (Lit.int .i64 b7).wf = true) (w8 : (Lit.int .i64 b8).wf = true) (w9 : (Lit.int .i64 b9).wf = true) (w10 : (Lit.int .i64 b10).wf = true) (w11 : (Lit.int .i64 b11).wf = true) :
    keyOf Try.prog 92 (.agg #[.int .i64 b0, .int .i64 b1, .int .i64 b2, .int .i64 b3, .int .i64 b4, .int .i64 b5, .int .i64 b6, .int .i64 b7, .int .i64 b8, .int .i64 b9, .int .i64 b10, .int .i64 b11]) = some (.string (keyBytes [Lit.int .i64 b0, Lit.int .i64 b1, Lit.int .i64 b2, Lit.int .i64 b3, Lit.int .i64 b4, Lit.int .i64 b5, Lit.int .i64 b6, Lit.int .i64 b7, Lit.int .i64 b8, Lit.int .i64 b9, Lit.int .i64 b10, Lit.int .i64 b11])) := by
  have A := arrKey92
  have hkt := A.keyType ⟨Try.prog.types.size - 1, by kernel_rfl⟩
  have hm : Try.prog.types.size = (Try.prog.types.size - 1) + 1 := by kernel_rfl
  obtain ⟨m, hmm⟩ : ∃ m, Try.prog.types.size - 1 = m := ⟨_, rfl⟩
  rw [hmm] at hm
  unfold keyOf
  simp only [A.hu]
  rw [if_pos (by simp [hkt, Value.formed, A.hu, A.size]), hm]
  unfold Program.keyLits
  simp only [A.hu, Value.cells]
  rw [if_pos (by rw [A.size]; rfl), show List.range 12 = [0, 1, 2, 3, 4, 5, 6, 7, 8, 9, 10, 11] from rfl]
  simp only [List.mapM_cons, List.mapM_nil]
  simp [A.one, Program.keyLits, w0, w1, w2, w3, w4, w5, w6, w7, w8, w9, w10, w11]
theorem key_bits (M : Nat → Bool) : keyOf Try.prog 92 (.agg (bitCells M)) = some (klOf M) := by
  have h := key_twelve (bitInt (M 0)) (bitInt (M 1)) (bitInt (M 2)) (bitInt (M 3)) (bitInt (M 4)) (bitInt (M 5)) (bitInt (M 6)) (bitInt (M 7)) (bitInt (M 8)) (bitInt (M 9)) (bitInt (M 10)) (bitInt (M 11)) (bitInt_wf _) (bitInt_wf _) (bitInt_wf _) (bitInt_wf _) (bitInt_wf _) (bitInt_wf _) (bitInt_wf _) (bitInt_wf _) (bitInt_wf _) (bitInt_wf _) (bitInt_wf _) (bitInt_wf _)
  have hc : bitCells M = #[.int .i64 (bitInt (M 0)), .int .i64 (bitInt (M 1)), .int .i64 (bitInt (M 2)), .int .i64 (bitInt (M 3)), .int .i64 (bitInt (M 4)), .int .i64 (bitInt (M 5)), .int .i64 (bitInt (M 6)), .int .i64 (bitInt (M 7)), .int .i64 (bitInt (M 8)), .int .i64 (bitInt (M 9)), .int .i64 (bitInt (M 10)), .int .i64 (bitInt (M 11))] := by
    unfold bitCells
    apply Array.ext'
    simp [Array.toList_ofFn, List.ofFn_succ, bitInt]
  rw [hc, h]
  rfl
theorem kl_inj {M M' : Nat → Bool} (h : klOf M = klOf M') : bitCells M = bitCells M' := by
  have h1 := key_bits M
  rw [h] at h1
  have := law92.inj h1 (key_bits M')
  exact Value.agg.inj this
/-- The number whose bits are the first k marks. -/
def setTo (M : Nat → Bool) : Nat → Nat
  | 0 => 0
  | k + 1 => 2 ^ k * (if M k = true then 1 else 0) + setTo M k
def setNo (M : Nat → Bool) : Nat := setTo M 12
theorem setTo_lt (M : Nat → Bool) : ∀ k, setTo M k < 2 ^ k
  | 0 => by simp [setTo]
  | k + 1 => by
    have := setTo_lt M k
    unfold setTo
    rw [Nat.pow_succ]
    split <;> omega
theorem setTo_bit (M : Nat → Bool) : ∀ k i, (setTo M k).testBit i = (decide (i < k) && M i)
  | 0, i => by simp [setTo]
  | k + 1, i => by
    unfold setTo
    rw [Nat.testBit_two_pow_mul_add _ (setTo_lt M k)]
    by_cases h : i < k
    · rw [if_pos h, setTo_bit M k i, decide_eq_true h, decide_eq_true (by omega : i < k + 1)]
    · rw [if_neg h]
      by_cases e : i = k
      · subst e
        cases hm : M i <;> simp
      · obtain ⟨j, hj⟩ : ∃ j, i - k = j + 1 := ⟨i - k - 1, by omega⟩
        rw [hj, decide_eq_false (by omega : ¬ i < k + 1)]
        split <;> simp [Nat.testBit_succ]
theorem setNo_bit (M : Nat → Bool) (i : Nat) : (setNo M).testBit i = (decide (i < 12) && M i) := setTo_bit M 12 i
theorem setNo_lt (M : Nat → Bool) : setNo M < 4096 := setTo_lt M 12
theorem setTo_or (M : Nat → Bool) (k : Nat) : setTo M (k + 1) = setTo M k ||| (if M k = true then 1 else 0) * 2 ^ k := by
  show 2 ^ k * (if M k = true then 1 else 0) + setTo M k = _
  rw [Nat.two_pow_add_eq_or_of_lt (setTo_lt M k), Nat.mul_comm, Nat.or_comm]
theorem bits_of_cells {M M' : Nat → Bool} (h : bitCells M = bitCells M') : ∀ i, i < 12 → M i = M' i := by
  intro i hi
  have h1 := bitCells_get M i hi
  rw [h, bitCells_get M' i hi] at h1
  simp only [Option.some.injEq, Value.int.injEq, true_and] at h1
  cases hm : M i <;> cases hm' : M' i <;> simp_all
theorem setTo_congr {M M' : Nat → Bool} : ∀ k, (∀ i, i < k → M i = M' i) → setTo M k = setTo M' k
  | 0, _ => rfl
  | k + 1, h => by unfold setTo; rw [h k (by omega), setTo_congr k fun i hi => h i (by omega)]
theorem setNo_inj {M M' : Nat → Bool} (h : setNo M = setNo M') : ∀ i, i < 12 → M i = M' i := by
  intro i hi
  have h1 := setNo_bit M i
  rw [h, setNo_bit M' i, decide_eq_true hi] at h1
  simpa using h1.symm
theorem setNo_cells {M M' : Nat → Bool} : setNo M = setNo M' ↔ klOf M = klOf M' := by
  constructor
  · intro h
    unfold klOf
    congr 2
    refine List.map_congr_left fun i hi => ?_
    rw [setNo_inj h i (by simpa using hi)]
  · intro h
    exact setTo_congr 12 (bits_of_cells (kl_inj h))

/-- The map at block b holds how often each of ys, as marks, is there. -/
def Alike (W : World) (b : Nat) (ys : List Nat) : Prop := ∃ (n : Nat) (D : DataW Unit), n ≤ 100000 ∧ W.ownsMap Try.prog 92 (plainElem Try.prog 2) b n D ∧
  (∀ M, Maps.has D (klOf M) = decide (setNo M ∈ ys) ∧ D.atKey (klOf M) (.lit (.int .i64 0)) = .lit (.int .i64 ((ys.count (setNo M) : Nat) : Int))) ∧
  ∀ kl, Maps.has D kl = true → ∃ M, kl = klOf M
theorem klOf_key (M : Nat → Bool) : WideAt.IsKeyLit (klOf M) := law92.key (key_bits M)
end Go.Proofs.Ytlaakmgdbhabfaa

/- set. -/
namespace Go.Proofs.Ytlaakmgdbhabfaa
open Go.RowKit Go.Shelf
attribute [local irreducible] bitCells fitCells Z94 fitOf

theorem run_index92 (w : World) (f : Array Value) (k : Nat) (hk : k < 12) (v : Value) (h : f[k]? = some v) : (Instr.index 92 (.agg f) (.int .i64 (k : Int))).run Try.prog w = .ok v w := by
  have hu : Try.prog.underlying 92 = some (.array 12 3) := by kernel_rfl
  obtain ⟨i, hi, hz, hs, hb⟩ := info_parts info3
  have hagg : (isAgg 3).run Try.prog w = .ok false w := by kernel_rfl
  have hkz : 0 ≤ (k : Int) ∧ (k : Int) < 12 := by omega
  have hn : ¬ 12 ≤ k := by omega
  simp [Instr.index, asIntOf, run_underlying hu, hkz, sizeOf, typeInfo, hi, hs, part, hagg, h, Result.andThen, hn]
section
variable {ops : Array Oper} {rest : List Oper} {o : Oper} {a : Act} {w : World} {Q : Exit → Act → World → Prop}
theorem wpList_index92 (x y : Operand) (hg : o.guard = none) (ho : o.op = .index 92 x y) (f : Array Value) (k : Nat) (hk : k < 12) (v : Value) (hv : f[k]? = some v) (hx : a.eval x = .agg f) (hy : a.eval y = .int .i64 (k : Int))
    (h : wpList Try.prog ops Q rest (a.put o.dst v) w) : wpList Try.prog ops Q (o :: rest) a w := by
  refine wpList_plain hg fun K hK => ?_
  have hr := run_index92 w f k hk v hv
  unfold Oper.wp execOp
  simp only [ho, hx, hy]
  simp [hr]
  exact hK _ _ h
end
theorem shift_two (b : Bool) (k : Nat) (hk : k < 12) : (if b = true then (1 : Nat) else 0) * 2 ^ k < 4096 := by
  have : 2 ^ k ≤ 2 ^ 11 := Nat.pow_le_pow_right (by decide) (by omega)
  split <;> omega

set_option maxRecDepth 100000 in
set_option maxHeartbeats 1000000 in
theorem set_any (M : Nat → Bool) (w : World) : Calls Try.prog 97 #[.agg (bitCells M)] w fun e w' => e = .returned (.int .i64 ((setNo M : Nat) : Int)) ∧ Ext w w' := by
  have hE := ext_alloc w (.cells (bitCells M) 92)
  have hrow : (w.alloc (.cells (bitCells M) 92)).heap[w.heap.size]? = some (.cells (bitCells M) 92 (0, 0)) := row_last _ _ _ rfl
  have hget := bitCells_get M
  have hsz := bitCells_size M
  obtain ⟨f, hf⟩ : ∃ f, bitCells M = f := ⟨_, rfl⟩
  rw [hf] at hE hrow hget hsz ⊢
  have HG := Lib.hid hget
  have HS := Lib.hid hsz
  have HE := Lib.hid hE
  clear hf hget hsz hE
  go_enter Try.func97, Try.ntmps97
  go_wp2_with (first | refine wpList_box92 (.tmp 0) rfl rfl f rfl ?_ | refine wpList_load92 (.tmp 1) rfl rfl w.heap.size rfl f HS.out hrow ?_)
  go_loopw [3, 7] (fun s i wr => wr = w.alloc (.cells f 92) ∧ ∃ k : Nat, k ≤ 12 ∧ i = .int .i64 k ∧ s = .int .i64 ((setTo M k : Nat) : Int)) (fun _ i _ => 12 - (intOf i).toNat)
  case atStart => exact ⟨rfl, 0, by omega, rfl, rfl⟩
  case round =>
    obtain ⟨rfl, k, hk, rfl, rfl⟩ := hrel
    by_cases hlt : k < 12
    · have hlz : (k : Int) < 12 := by omega
      obtain ⟨bt, hbt⟩ : ∃ bt, M k = bt := ⟨_, rfl⟩
      have hgk := HG.out k hlt
      rw [hbt] at hgk
      have hor := setTo_or M k
      rw [hbt] at hor
      have hlt2 := Nat.lt_trans (setTo_lt M k) (Nat.pow_lt_pow_right (by decide) hlt)
      obtain ⟨t, ht⟩ : ∃ t, setTo M k = t := ⟨_, rfl⟩
      rw [ht] at hor hlt2 ⊢
      have HO := Lib.hid hor
      have hsh := shift_two bt k hlt
      obtain ⟨sh, hshe⟩ : ∃ sh, (if bt = true then (1 : Nat) else 0) * 2 ^ k = sh := ⟨_, rfl⟩
      rw [hshe] at hsh
      have hbo := bits_or t sh (by omega) (by omega)
      have HSE := Lib.hid hshe
      clear hbt ht hor hshe
      go_wp2_with (first | refine wpList_index92 (.tmp 6) (.tmp 7) rfl rfl f k hlt _ hgk rfl rfl ?_)
      go_roundw
      case measure => simp [intOf]; omega
      case rel =>
        refine ⟨trivial, k + 1, by omega, by go_num, ?_⟩
        rw [HO.out, HSE.out, ← hbo]
        congr 2
        rw [← HSE.out]
        have e1 : (if bt = true then (1 : Int) else 0) * 2 ^ k = ((((if bt = true then 1 else 0) * 2 ^ k : Nat)) : Int) := by cases bt <;> simp
        rw [e1, HSE.out]
        unfold wrap64
        omega
    · have hlz : ¬ (k : Int) < 12 := by omega
      obtain rfl : k = 12 := by omega
      go_wp2
      go_ret
      exact ⟨rfl, HE.out⟩
end Go.Proofs.Ytlaakmgdbhabfaa
