/- Texts of one package, joined: Lay, Sorted, Ends. -/
import Derived.Test.YtmlmnljbegcjcaaGreatD6
import Derived.Shelf.SlGeneric
import Derived.Shelf.SlLaysN
import Derived.Shelf.SlLaysNS
import Derived.Ground.SlgnProg
import Derived.Shelf.SortG.Plain
import Derived.Shelf.SortG.SortNone
import Derived.Shelf.SlicesG.CompactI
import Derived.Lib.OwnBridge
/- The library sorts and compacts, laid at the program. -/
namespace Go.Proofs.YtmlmnljbegcjcaaGreat
open Go.Shelf
def sortL_ren : Go.Shelf.Ren := ⟨fun | 53 => 122 | 64 => 95 | 63 => 136 | 78 => 120 | 79 => 121 | 70 => 139 | 71 => 140 | 72 => 141 | 73 => 142 | 74 => 143 | 75 => 144 | 59 => 145 | 76 => 146 | 77 => 147 | 88 => 148 | 89 => 131 | 90 => 132 | 91 => 149 | 92 => 150 | 68 => 137 | 96 => 151 | n => n, fun | 22 => 36 | 23 => 2 | 3 => 3 | 51 => 118 | 0 => 0 | 67 => 146 | 69 => 148 | 4 => 4 | 61 => 139 | 60 => 138 | 44 => 62 | 5 => 5 | 9 => 9 | 75 => 157 | 79 => 161 | 83 => 164 | 84 => 165 | n => n, fun | n => n⟩
theorem sortL : Go.Proofs.SlLaysN.n53 Tryz.prog sortL_ren := {
  mixed := by kernel_rfl
  f53 := ⟨Tryz.f122.name, by decide, Tryz.func122.trans (congrArg some (by kernel_rfl))⟩
  f59 := ⟨Tryz.f145.name, by decide, Tryz.func145.trans (congrArg some (by kernel_rfl))⟩
  f63 := ⟨Tryz.f136.name, by decide, Tryz.func136.trans (congrArg some (by kernel_rfl))⟩
  f64 := Tryz.func95.trans (congrArg some (by kernel_rfl))
  f68 := ⟨Tryz.f137.name, by decide, Tryz.func137.trans (congrArg some (by kernel_rfl))⟩
  f70 := ⟨Tryz.f139.name, by decide, Tryz.func139.trans (congrArg some (by kernel_rfl))⟩
  f71 := ⟨Tryz.f140.name, by decide, Tryz.func140.trans (congrArg some (by kernel_rfl))⟩
  f72 := ⟨Tryz.f141.name, by decide, Tryz.func141.trans (congrArg some (by kernel_rfl))⟩
  f73 := ⟨Tryz.f142.name, by decide, Tryz.func142.trans (congrArg some (by kernel_rfl))⟩
  f74 := ⟨Tryz.f143.name, by decide, Tryz.func143.trans (congrArg some (by kernel_rfl))⟩
  f75 := ⟨Tryz.f144.name, by decide, Tryz.func144.trans (congrArg some (by kernel_rfl))⟩
  f76 := ⟨Tryz.f146.name, by decide, Tryz.func146.trans (congrArg some (by kernel_rfl))⟩
  f77 := ⟨Tryz.f147.name, by decide, Tryz.func147.trans (congrArg some (by kernel_rfl))⟩
  f78 := Tryz.func120.trans (congrArg some (by kernel_rfl))
  f79 := Tryz.func121.trans (congrArg some (by kernel_rfl))
  f88 := ⟨Tryz.f148.name, by decide, Tryz.func148.trans (congrArg some (by kernel_rfl))⟩
  f89 := Tryz.func131.trans (congrArg some (by kernel_rfl))
  f90 := Tryz.func132.trans (congrArg some (by kernel_rfl))
  f91 := ⟨Tryz.f149.name, by decide, Tryz.func149.trans (congrArg some (by kernel_rfl))⟩
  f92 := ⟨Tryz.f150.name, by decide, Tryz.func150.trans (congrArg some (by kernel_rfl))⟩
  f96 := ⟨Tryz.f151.name, by decide, Tryz.func151.trans (congrArg some (by kernel_rfl))⟩
  t0 := Tryz.underlying0
  a0 := Tryz.isAgg0
  z0 := Tryz.sizeOf0
  v0 := Tryz.zeroValue0
  t3 := Tryz.underlying3
  a3 := Tryz.isAgg3
  z3 := Tryz.sizeOf3
  v3 := Tryz.zeroValue3
  t4 := Tryz.underlying4
  a4 := Tryz.isAgg4
  z4 := Tryz.sizeOf4
  v4 := Tryz.zeroValue4
  t5 := Tryz.underlying5
  a5 := Tryz.isAgg5
  z5 := Tryz.sizeOf5
  v5 := Tryz.zeroValue5
  t9 := Tryz.underlying9
  a9 := Tryz.isAgg9
  z9 := Tryz.sizeOf9
  v9 := Tryz.zeroValue9
  t22 := Tryz.underlying36
  a22 := Tryz.isAgg36
  z22 := Tryz.sizeOf36
  v22 := Tryz.zeroValue36
  t23 := Tryz.underlying2
  a23 := Tryz.isAgg2
  z23 := Tryz.sizeOf2
  v23 := Tryz.zeroValue2
  t44 := Tryz.underlying62
  a44 := Tryz.isAgg62
  z44 := Tryz.sizeOf62
  v44 := Tryz.zeroValue62
  t51 := Tryz.underlying118
  a51 := Tryz.isAgg118
  z51 := Tryz.sizeOf118
  v51 := Tryz.zeroValue118
  t60 := Tryz.underlying138
  a60 := Tryz.isAgg138
  z60 := Tryz.sizeOf138
  v60 := Tryz.zeroValue138
  t61 := Tryz.underlying139
  a61 := Tryz.isAgg139
  z61 := Tryz.sizeOf139
  v61 := Tryz.zeroValue139
  t67 := Tryz.underlying146
  a67 := Tryz.isAgg146
  z67 := Tryz.sizeOf146
  v67 := Tryz.zeroValue146
  t69 := Tryz.underlying148
  a69 := Tryz.isAgg148
  z69 := Tryz.sizeOf148
  v69 := Tryz.zeroValue148
  t75 := Tryz.underlying157
  a75 := Tryz.isAgg157
  z75 := Tryz.sizeOf157
  v75 := Tryz.zeroValue157
  t79 := Tryz.underlying161
  a79 := Tryz.isAgg161
  z79 := Tryz.sizeOf161
  v79 := Tryz.zeroValue161
  t83 := Tryz.underlying164
  a83 := Tryz.isAgg164
  z83 := Tryz.sizeOf164
  v83 := Tryz.zeroValue164
  t84 := Tryz.underlying165
  a84 := Tryz.isAgg165
  z84 := Tryz.sizeOf165
  v84 := Tryz.zeroValue165 }
def sortI_ren : Go.Shelf.Ren := ⟨fun | 53 => 73 | 64 => 95 | 63 => 94 | 78 => 120 | 79 => 121 | 70 => 111 | 71 => 112 | 72 => 113 | 73 => 114 | 74 => 115 | 75 => 116 | 59 => 117 | 76 => 118 | 77 => 119 | 88 => 130 | 89 => 131 | 90 => 132 | 91 => 133 | 92 => 134 | 68 => 135 | 96 => 138 | n => n, fun | 22 => 30 | 23 => 3 | 3 => 3 | 51 => 118 | 0 => 0 | 67 => 146 | 69 => 148 | 4 => 4 | 61 => 139 | 60 => 138 | 44 => 62 | 5 => 5 | 9 => 9 | 75 => 157 | 79 => 161 | 83 => 164 | 84 => 165 | n => n, fun | n => n⟩
theorem sortI : Go.Proofs.SlLaysN.n53 Tryz.prog sortI_ren := {
  mixed := by kernel_rfl
  f53 := ⟨Tryz.f73.name, by decide, Tryz.func73.trans (congrArg some (by kernel_rfl))⟩
  f59 := ⟨Tryz.f117.name, by decide, Tryz.func117.trans (congrArg some (by kernel_rfl))⟩
  f63 := ⟨Tryz.f94.name, by decide, Tryz.func94.trans (congrArg some (by kernel_rfl))⟩
  f64 := Tryz.func95.trans (congrArg some (by kernel_rfl))
  f68 := ⟨Tryz.f135.name, by decide, Tryz.func135.trans (congrArg some (by kernel_rfl))⟩
  f70 := ⟨Tryz.f111.name, by decide, Tryz.func111.trans (congrArg some (by kernel_rfl))⟩
  f71 := ⟨Tryz.f112.name, by decide, Tryz.func112.trans (congrArg some (by kernel_rfl))⟩
  f72 := ⟨Tryz.f113.name, by decide, Tryz.func113.trans (congrArg some (by kernel_rfl))⟩
  f73 := ⟨Tryz.f114.name, by decide, Tryz.func114.trans (congrArg some (by kernel_rfl))⟩
  f74 := ⟨Tryz.f115.name, by decide, Tryz.func115.trans (congrArg some (by kernel_rfl))⟩
  f75 := ⟨Tryz.f116.name, by decide, Tryz.func116.trans (congrArg some (by kernel_rfl))⟩
  f76 := ⟨Tryz.f118.name, by decide, Tryz.func118.trans (congrArg some (by kernel_rfl))⟩
  f77 := ⟨Tryz.f119.name, by decide, Tryz.func119.trans (congrArg some (by kernel_rfl))⟩
  f78 := Tryz.func120.trans (congrArg some (by kernel_rfl))
  f79 := Tryz.func121.trans (congrArg some (by kernel_rfl))
  f88 := ⟨Tryz.f130.name, by decide, Tryz.func130.trans (congrArg some (by kernel_rfl))⟩
  f89 := Tryz.func131.trans (congrArg some (by kernel_rfl))
  f90 := Tryz.func132.trans (congrArg some (by kernel_rfl))
  f91 := ⟨Tryz.f133.name, by decide, Tryz.func133.trans (congrArg some (by kernel_rfl))⟩
  f92 := ⟨Tryz.f134.name, by decide, Tryz.func134.trans (congrArg some (by kernel_rfl))⟩
  f96 := ⟨Tryz.f138.name, by decide, Tryz.func138.trans (congrArg some (by kernel_rfl))⟩
  t0 := Tryz.underlying0
  a0 := Tryz.isAgg0
  z0 := Tryz.sizeOf0
  v0 := Tryz.zeroValue0
  t3 := Tryz.underlying3
  a3 := Tryz.isAgg3
  z3 := Tryz.sizeOf3
  v3 := Tryz.zeroValue3
  t4 := Tryz.underlying4
  a4 := Tryz.isAgg4
  z4 := Tryz.sizeOf4
  v4 := Tryz.zeroValue4
  t5 := Tryz.underlying5
  a5 := Tryz.isAgg5
  z5 := Tryz.sizeOf5
  v5 := Tryz.zeroValue5
  t9 := Tryz.underlying9
  a9 := Tryz.isAgg9
  z9 := Tryz.sizeOf9
  v9 := Tryz.zeroValue9
  t22 := Tryz.underlying30
  a22 := Tryz.isAgg30
  z22 := Tryz.sizeOf30
  v22 := Tryz.zeroValue30
  t23 := Tryz.underlying3
  a23 := Tryz.isAgg3
  z23 := Tryz.sizeOf3
  v23 := Tryz.zeroValue3
  t44 := Tryz.underlying62
  a44 := Tryz.isAgg62
  z44 := Tryz.sizeOf62
  v44 := Tryz.zeroValue62
  t51 := Tryz.underlying118
  a51 := Tryz.isAgg118
  z51 := Tryz.sizeOf118
  v51 := Tryz.zeroValue118
  t60 := Tryz.underlying138
  a60 := Tryz.isAgg138
  z60 := Tryz.sizeOf138
  v60 := Tryz.zeroValue138
  t61 := Tryz.underlying139
  a61 := Tryz.isAgg139
  z61 := Tryz.sizeOf139
  v61 := Tryz.zeroValue139
  t67 := Tryz.underlying146
  a67 := Tryz.isAgg146
  z67 := Tryz.sizeOf146
  v67 := Tryz.zeroValue146
  t69 := Tryz.underlying148
  a69 := Tryz.isAgg148
  z69 := Tryz.sizeOf148
  v69 := Tryz.zeroValue148
  t75 := Tryz.underlying157
  a75 := Tryz.isAgg157
  z75 := Tryz.sizeOf157
  v75 := Tryz.zeroValue157
  t79 := Tryz.underlying161
  a79 := Tryz.isAgg161
  z79 := Tryz.sizeOf161
  v79 := Tryz.zeroValue161
  t83 := Tryz.underlying164
  a83 := Tryz.isAgg164
  z83 := Tryz.sizeOf164
  v83 := Tryz.zeroValue164
  t84 := Tryz.underlying165
  a84 := Tryz.isAgg165
  z84 := Tryz.sizeOf165
  v84 := Tryz.zeroValue165 }
def compL_ren : Go.Shelf.Ren := ⟨fun | 43 => 123 | n => n, fun | 22 => 36 | 23 => 2 | 3 => 3 | 4 => 4 | 0 => 0 | n => n, fun | n => n⟩
theorem compL : Go.Proofs.SlLaysN.n43 Tryz.prog compL_ren := {
  mixed := by kernel_rfl
  f43 := ⟨Tryz.f123.name, by decide, Tryz.func123.trans (congrArg some (by kernel_rfl))⟩
  t0 := Tryz.underlying0
  a0 := Tryz.isAgg0
  z0 := Tryz.sizeOf0
  v0 := Tryz.zeroValue0
  t3 := Tryz.underlying3
  a3 := Tryz.isAgg3
  z3 := Tryz.sizeOf3
  v3 := Tryz.zeroValue3
  t4 := Tryz.underlying4
  a4 := Tryz.isAgg4
  z4 := Tryz.sizeOf4
  v4 := Tryz.zeroValue4
  t22 := Tryz.underlying36
  a22 := Tryz.isAgg36
  z22 := Tryz.sizeOf36
  v22 := Tryz.zeroValue36
  t23 := Tryz.underlying2
  a23 := Tryz.isAgg2
  z23 := Tryz.sizeOf2
  v23 := Tryz.zeroValue2
  i23 := by kernel_rfl }
end Go.Proofs.YtmlmnljbegcjcaaGreat

/- slices.Sort and slices.Compact at the program: over a list that the call itself made. -/
namespace Go.Proofs.YtmlmnljbegcjcaaGreat
open Go.RowKit Go.Shelf Go.Sort

theorem ext_growN (W : World) (os : Array Obj) : Ext W (grow W os) := ⟨rfl, rfl, rfl, by simp [grow], fun k hk => by simp [grow, Array.getElem?_append, hk]⟩
/-- The list in increasing order. -/
def ordI (zs : List Int) : List Int := zs.mergeSort fun x y => decide (x ≤ y)
theorem ordI_len (zs : List Int) : (ordI zs).length = zs.length := List.length_mergeSort _
theorem mem_ordI {zs : List Int} {x : Int} : x ∈ ordI zs ↔ x ∈ zs := List.mem_mergeSort
theorem ordI_le (zs : List Int) : (ordI zs).Pairwise (· ≤ ·) := by
  have := List.pairwise_mergeSort (le := fun x y : Int => decide (x ≤ y)) (fun a b c h1 h2 => by simp at h1 h2 ⊢; omega) (fun a b => by simp; omega) zs
  simpa [ordI] using this

theorem sort_own {e : TypeId} {f : FuncId} {ρ : Go.Shelf.Ren} (L : SlLaysN.n53 Tryz.prog ρ) (hf : ρ.f 53 = f) {w : World} {base g n cap : Nat} {zs : List Int} (hn : n ≤ 4096) (h : w.ownsRow base e 1 (.slice (some ⟨g, 0, none⟩) n cap) n (zs.map (Value.int .i64))) :
    Calls Tryz.prog f #[.slice (some ⟨g, 0, none⟩) n cap] w fun e' w' => e' = .returned (.tuple #[]) ∧ w'.ownsRow base e 1 (.slice (some ⟨g, 0, none⟩) n cap) n ((ordI zs).map (Value.int .i64)) ∧ Below base w w' := by
  obtain ⟨g', cap', he, hbg, hgl, hnc, hcm, hzl, hH⟩ := Go.Lib.holds_of_ownsRow h (by simp)
  injection he with he1 _ he3
  injection he1 with he1
  injection he1 with he1
  subst he1; subst he3; subst hzl
  have h1 := AnyG.slices_Sort_int L g 0 cap zs w hH hgl (by omega)
  rw [hf] at h1
  refine h1.mono ?_
  rintro e' w' ⟨rfl, q, os, rfl⟩
  have h2 := Go.Lib.ownsRow_putRow (q := q) (ys := ordI zs) h (ordI_len zs) (Nat.le_refl _)
  rw [List.take_of_length_le (by rw [ordI_len]; exact Nat.le_refl _)] at h2
  exact ⟨rfl, owns_ext h2 (ext_growN _ os), Below.trans (Go.Lib.below_putRow (Below.refl base w) hbg) ((ext_growN _ os).mono (by simp [putRow, mapBlock, Sort.ahead]; omega))⟩
/-- No elements: nothing is done. -/
theorem sort_none {f : FuncId} {ρ : Go.Shelf.Ren} (L : SlLaysN.n53 Tryz.prog ρ) (hf : ρ.f 53 = f) (p : Option Addr) (cap : Nat) (w : World) : Calls Tryz.prog f #[.slice p 0 cap] w fun e' w' => e' = .returned (.tuple #[]) ∧ w' = w := by
  have h1 := AnyG.slices_Sort_int_none L p cap w
  rwa [hf] at h1

theorem compact_sorted {d : Array Int} (h : ∀ i j, i ≤ j → j < d.size → d[i]! ≤ d[j]!) : ∀ m, m ≤ d.size → (Lib.compactUpTo d m).Pairwise (· < ·) ∧ ∀ x, x ∈ Lib.compactUpTo d m ↔ ∃ j, j < m ∧ d[j]! = x
  | 0, _ => by simp [Lib.compactUpTo]
  | m + 1, hm => by
    obtain ⟨h1, h2⟩ := compact_sorted h m (by omega)
    rw [Lib.compactUpTo_succ]
    by_cases hk : Lib.keeps d m = true
    · rw [if_pos hk]
      refine ⟨List.pairwise_append.2 ⟨h1, List.pairwise_singleton _ _, fun x hx y hy => ?_⟩, fun x => ?_⟩
      · rw [List.mem_singleton.1 hy]
        obtain ⟨j, hj, rfl⟩ := (h2 x).1 hx
        have a1 := h j (m - 1) (by omega) (by omega)
        have a2 := h (m - 1) m (by omega) (by omega)
        by_cases he : d[m]! = d[m - 1]!
        · rw [Lib.keeps_neg (by omega) he] at hk
          cases hk
        · omega
      · rw [List.mem_append, h2, List.mem_singleton]
        constructor
        · rintro (⟨j, hj, rfl⟩ | rfl)
          · exact ⟨j, by omega, rfl⟩
          · exact ⟨m, by omega, rfl⟩
        · rintro ⟨j, hj, rfl⟩
          by_cases e : j = m
          · exact .inr (by rw [e])
          · exact .inl ⟨j, by omega, rfl⟩
    · rw [if_neg hk, List.append_nil]
      refine ⟨h1, fun x => ?_⟩
      rw [h2]
      have hm0 : 0 < m := by
        rcases Nat.eq_zero_or_pos m with e | e
        · subst e
          exact absurd (Lib.keeps_lt_one d 0 (by omega)) hk
        · exact e
      have he : d[m]! = d[m - 1]! := Classical.byContradiction fun e => hk (Lib.keeps_pos e)
      constructor
      · rintro ⟨j, hj, rfl⟩
        exact ⟨j, by omega, rfl⟩
      · rintro ⟨j, hj, rfl⟩
        by_cases e : j = m
        · exact ⟨m - 1, by omega, by rw [e, he]⟩
        · exact ⟨j, by omega, rfl⟩
theorem compact_ord (zs : List Int) : Lib.compact (ordI zs) = sortD zs := by
  have hle := ordI_le zs
  have hs : ∀ i j, i ≤ j → j < (ordI zs).toArray.size → (ordI zs).toArray[i]! ≤ (ordI zs).toArray[j]! := fun i j hij hj => by
    simp only [List.size_toArray] at hj
    have e1 : (ordI zs).toArray[i]! = (ordI zs)[i]'(by omega) := by simp [getElem!_pos, show i < (ordI zs).length by omega]
    have e2 : (ordI zs).toArray[j]! = (ordI zs)[j] := by simp [getElem!_pos, hj]
    rw [e1, e2]
    rcases Nat.lt_or_eq_of_le hij with h | h
    · exact List.pairwise_iff_getElem.1 hle i j _ _ h
    · subst h
      exact Int.le_refl _
  obtain ⟨h1, h2⟩ := compact_sorted hs (ordI zs).toArray.size (Nat.le_refl _)
  refine strict_eq (a := Lib.compactUpTo (ordI zs).toArray (ordI zs).length) (b := sortD zs) (by simpa using h1) (sortD_sorted zs) fun z => ?_
  have := h2 z
  simp only [List.size_toArray] at this
  rw [this, mem_sortD, ← mem_ordI (zs := zs)]
  constructor
  · rintro ⟨j, hj, rfl⟩
    simp [getElem!_pos, hj]
  · intro hz
    obtain ⟨j, hj, rfl⟩ := List.getElem_of_mem hz
    exact ⟨j, hj, by simp [getElem!_pos, hj]⟩
theorem compact_len (zs : List Int) : (sortD zs).length ≤ zs.length := sortD_len zs
theorem comp_own {e : TypeId} {w : World} {base g n cap : Nat} {zs : List Int} (hn : n ≤ 4096) (h : w.ownsRow base e 1 (.slice (some ⟨g, 0, none⟩) n cap) n ((ordI zs).map (Value.int .i64))) :
    Calls Tryz.prog 123 #[.slice (some ⟨g, 0, none⟩) n cap] w fun e' w' => e' = .returned (.slice (some ⟨g, 0, none⟩) (sortD zs).length cap) ∧ w'.ownsRow base e 1 (.slice (some ⟨g, 0, none⟩) (sortD zs).length cap) (sortD zs).length ((sortD zs).map (Value.int .i64)) ∧ Below base w w' := by
  obtain ⟨g', cap', he, hbg, hgl, hnc, hcm, hzl, hH⟩ := Go.Lib.holds_of_ownsRow h (by simp)
  injection he with he1 _ he3
  injection he1 with he1
  injection he1 with he1
  subst he1; subst he3; subst hzl
  have h1 := AnyG.slices_Compact_int compL g 0 cap (ordI zs) w hH (by omega) (by omega)
  rw [compact_ord] at h1
  have h2 : ∀ q, _ := fun q => Go.Lib.ownsRow_putRow (q := q) (k := (sortD zs).length) (ys := sortD zs ++ List.replicate ((ordI zs).length - (sortD zs).length) 0) h (by have := compact_len zs; simp [ordI_len]; omega) (by rw [ordI_len]; exact compact_len zs)
  rw [List.take_left'  rfl] at h2
  refine (show Calls Tryz.prog 123 _ _ _ from h1).mono ?_
  rintro e' w' ⟨rfl, q, rfl⟩
  exact ⟨rfl, h2 q, Go.Lib.below_putRow (Below.refl base w) hbg⟩
end Go.Proofs.YtmlmnljbegcjcaaGreat

/- births: the ends of all orders' births, and the function that ranges over those that count. -/
namespace Go.Proofs.YtmlmnljbegcjcaaGreat
open Go.RowKit Go.Shelf Go.Sort
attribute [local irreducible] bitCells

/-- Where the range function finds its ends and its book. -/
structure EndsAt (W : World) (pe pb : Nat) (A : Option Addr) (c : Nat) (os : List Odr) (A2 : Option Addr) (c2 : Nat) : Prop where
  rowe : W.heap[pe]? = some (.cells #[.slice A2 (sortD (os.map bHi)).length c2] 36 (0, 0))
  rowb : W.heap[pb]? = some (.cells #[.slice A os.length c] 75 (0, 0))
  held : Held W W.heap.size 1 encI A2 (sortD (os.map bHi))
  book : IsBook W A c os
theorem EndsAt.ext {W W' : World} {pe pb : Nat} {A : Option Addr} {c : Nat} {os : List Odr} {A2 : Option Addr} {c2 : Nat} (h : EndsAt W pe pb A c os A2 c2) (e : Ext W W') : EndsAt W' pe pb A c os A2 c2 :=
  ⟨row_ext h.rowe e, row_ext h.rowb e, h.held.ext e, h.book.ext e⟩

theorem flat_encI : ∀ xs : List Int, xs.flatMap encI = xs.map (Value.int .i64)
  | [] => rfl
  | x :: xs => by rw [List.flatMap_cons, List.map_cons, flat_encI xs]; rfl

set_option maxRecDepth 100000 in
set_option maxHeartbeats 4000000 in
theorem ends_any2 {A : Option Addr} {c : Nat} {os : List Odr} {w : World} (hb : IsBook w A c os) :
    Calls Tryz.prog 98 #[.slice A os.length c] w fun e w' => ∃ pe pb A2 c2, e = .returned (.func (.func 124) #[] #[.pointer (some ⟨pe, 0, none⟩), .pointer (some ⟨pb, 0, none⟩)]) ∧ EndsAt w' pe pb A c os A2 c2 ∧ Ext w w' ∧ (∀ b o, A2 = some ⟨b, o, none⟩ → w.heap.size ≤ b) ∧ w.heap.size ≤ pe ∧ w.heap.size ≤ pb := by
  have HB := Lib.hid hb
  have hn14 := hb.few.2
  have hn1 := hb.few.1
  clear hb
  go_enter Tryz.func98, Tryz.ntmps98
  go_upto_region 2 with fail
  obtain ⟨w1, hw1⟩ : ∃ w1, (w.alloc (.cells #[.slice A os.length c] 75)).alloc (.cells #[.slice none 0 0] 36) = w1 := ⟨_, rfl⟩
  have hb1 : w1.heap[w.heap.size]? = some (.cells #[.slice A os.length c] 75 (0, 0)) := by rw [← hw1]; exact row_alloc _ _ _ _ (row_last _ _ _ rfl)
  have he1 : w1.heap[w.heap.size + 1]? = some (.cells #[.slice none 0 0] 36 (0, 0)) := by rw [← hw1]; exact row_last _ _ _ (by simp)
  have hE1 : Ext w w1 := by rw [← hw1]; exact (ext_alloc _ _).trans (ext_alloc _ _)
  have hz1 : w1.heap.size = w.heap.size + 2 := by rw [← hw1]; simp
  have hsz : (w.alloc (.cells #[.slice A os.length c] 75)).heap.size = w.heap.size + 1 := by simp
  rw [hw1]
  try rw [hsz]
  obtain ⟨pb, hpb⟩ : ∃ pb, w.heap.size = pb := ⟨_, rfl⟩
  have HZ := Lib.hid (show w.heap.size ≤ pb ∧ pb + 2 ≤ w1.heap.size from by omega)
  rw [hpb] at hb1 he1
  rw [hpb]
  have HB1 := Lib.hid hb1
  have HE1 := Lib.hid he1
  have HE := Lib.hid hE1
  have HO1 := Lib.hid (World.ownsRow_nil w1 (pb + 2) 2 1)
  have cpb : w1.cell? ⟨pb, 0, none⟩ = some (.slice A os.length c) := cell_of_row _ _ _ _ _ _ hb1
  clear hw1 hz1 hsz hpb hb1 he1 hE1
  go_wp2
  go_loopw [5, 8] (fun _ i wr => ∃ k : Nat, k ≤ os.length ∧ i = .int .i64 k ∧ Hid (Ext w wr) ∧ Hid (pb + 2 ≤ wr.heap.size) ∧ Hid (wr.heap[pb]? = some (.cells #[.slice A os.length c] 75 (0, 0))) ∧ Hid (∃ v, wr.heap[pb + 1]? = some (.cells #[v] 36 (0, 0)) ∧ wr.ownsRow (pb + 2) 2 1 v k (((os.take k).map bHi).map (Value.int .i64)))) (fun _ i _ => os.length - (intOf i).toNat)
  case atStart => exact ⟨0, Nat.zero_le _, rfl, HE, Lib.hid HZ.out.2, HB1, Lib.hid ⟨_, HE1.out, HO1.out⟩⟩
  case round =>
    obtain ⟨k, hk, rfl, hB, hZ, hR, hV⟩ := hrel
    clear HE HE1 HB1 HO1 cpb
    obtain ⟨v, hv, hO⟩ := hV.out
    have HV := Lib.hid hv
    have HO := Lib.hid hO
    by_cases hlt : k < os.length
    · have hltz : (k : Int) < (os.length : Int) := by omega
      obtain ⟨b, off, rfl, hbl, c0, c1, c2, c3, c4, c5, c6⟩ := (HB.out.ext hB.out).at hlt
      have htk : os.take (k + 1) = os.take k ++ [os[k]] := List.take_succ_eq_append_getElem hlt
      obtain ⟨o, ho⟩ : ∃ o, os[k] = o := ⟨_, rfl⟩
      rw [ho] at c0 c1 c2 c3 c4 c5 c6 htk
      have HTK := Lib.hid htk
      have hpe : wr.cell? ⟨pb + 1, 0, none⟩ = some v := cell_of_row _ _ _ _ _ _ hv
      have hpl : pb + 1 < wr.heap.size := by have := hZ.out; omega
      have fz : wr.frozen? ⟨pb + 1, 0, none⟩ = false := by simp [World.frozen?, hv]
      clear ho htk hV hO hv
      go_wp2_with (at_builtin; refine wpList_app1 rfl 12 16 36 2 rfl Tryz.underlying36 _ 1 8 info2 rfl (by decide) (by decide) (pb + 2) k _ _ rfl ((HO.out.alloc _).alloc _) (wr.heap.size + 1) [.int .i64 (bHi o)] rfl rfl (row_last _ _ _ (by simp)) (encI_one _) (by omega) (by have := hZ.out; simp; omega) ?_; intro A9 c9 w3 hown hB3 _; have HW := Lib.hid hown; have HB3 := Lib.hid hB3; have hr3 : w3.heap[pb + 1]? = some (.cells #[v] 36 (0, 0)) := (hB3.block _ (by omega)).trans (row_alloc _ _ _ _ (row_alloc _ _ _ _ HV.out)); have HR3 := Lib.hid hr3; have hpe3 : w3.cell? ⟨pb + 1, 0, none⟩ = some v := cell_of_row _ _ _ _ _ _ hr3; have fz3 : w3.frozen? ⟨pb + 1, 0, none⟩ = false := (by simp [World.frozen?, hr3]); clear hown hB3 hr3 hpe fz c0 c1 c2 c3 c4 c5 c6)
      go_roundw
      case measure => simp [intOf]; omega
      case rel =>
        have hsz3 : pb + 2 ≤ w3.heap.size := Nat.le_trans (by simp; have := hZ.out; omega) HB3.out.size
        have hb3 : Ext w w3 := Below.trans (hB.out.trans ((ext_alloc _ _).trans (ext_alloc _ _))) (HB3.out.mono (by have := HZ.out.1; omega))
        refine ⟨k + 1, by omega, by go_num, Lib.hid (set_kept hb3 (by have := HZ.out.1; omega)), Lib.hid (by simpa using hsz3), Lib.hid ?_, Lib.hid ⟨_, row_setCell _ _ _ _ _ _ _ HR3.out, ?_⟩⟩
        · rw [heap_set_other _ _ _ _ _ (by omega)]
          exact (HB3.out.block _ (by omega)).trans (row_alloc _ _ _ _ (row_alloc _ _ _ _ hR.out))
        · rw [HTK.out, List.map_append, List.map_append]
          exact own_stay HW.out (fun g hg => heap_set_other _ _ _ _ _ (by have := (HW.out.lt g hg).1; omega))
    · have hltz : ¬ (k : Int) < (os.length : Int) := by omega
      obtain rfl : k = os.length := by omega
      rw [List.take_length] at hO
      clear HO hV
      rcases hO.2 with ⟨_, e0⟩ | ⟨g, cap, cur, rfl, hgb, _⟩
      · exact absurd e0 (by omega)
      have hso := sort_own sortL (f := 122) rfl (by omega) hO
      have hgB : pb + 2 ≤ g := hgb
      have HO := Lib.hid hO
      have hpe : wr.cell? ⟨pb + 1, 0, none⟩ = some (.slice (some ⟨g, 0, none⟩) os.length cap) := cell_of_row _ _ _ _ _ _ hv
      clear hO hv
      go_wp2_with fail
      refine hso.mono ?_
      rintro e w2 ⟨rfl, hO2, hB2⟩
      have hv2 : w2.heap[pb + 1]? = some (.cells #[.slice (some ⟨g, 0, none⟩) os.length cap] 36 (0, 0)) := (hB2.block _ (by omega)).trans HV.out
      have hR2 : w2.heap[pb]? = some (.cells #[.slice A os.length c] 75 (0, 0)) := (hB2.block _ (by omega)).trans hR.out
      have HE2 : Hid (Ext w w2) := Lib.hid (Below.trans hB.out (hB2.mono (by have := HZ.out.1; omega)))
      have HZ2 : Hid (pb + 2 ≤ w2.heap.size) := Lib.hid (Nat.le_trans hZ.out hB2.size)
      have hco := comp_own (zs := os.map bHi) (by omega) hO2
      have hpe2 : w2.cell? ⟨pb + 1, 0, none⟩ = some (.slice (some ⟨g, 0, none⟩) os.length cap) := cell_of_row _ _ _ _ _ _ hv2
      have HV2 := Lib.hid hv2
      have HR2 := Lib.hid hR2
      clear hso hB2 hO2 hv2 hR2 hpe hR hB hZ HV HO
      go_wp2_with fail
      refine hco.mono ?_
      rintro e w3 ⟨rfl, hO3, hB3⟩
      have hv3 : w3.heap[pb + 1]? = some (.cells #[.slice (some ⟨g, 0, none⟩) os.length cap] 36 (0, 0)) := (hB3.block _ (by omega)).trans HV2.out
      have hR3 : w3.heap[pb]? = some (.cells #[.slice A os.length c] 75 (0, 0)) := (hB3.block _ (by omega)).trans HR2.out
      have HE3 : Hid (Ext w w3) := Lib.hid (Below.trans HE2.out (hB3.mono (by have := HZ.out.1; omega)))
      have HZ3 : Hid (pb + 2 ≤ w3.heap.size) := Lib.hid (Nat.le_trans HZ2.out hB3.size)
      have hpe3 : w3.cell? ⟨pb + 1, 0, none⟩ = some (.slice (some ⟨g, 0, none⟩) os.length cap) := cell_of_row _ _ _ _ _ _ hv3
      have fz3 : w3.frozen? ⟨pb + 1, 0, none⟩ = false := by simp [World.frozen?, hv3]
      have HV3 := Lib.hid hv3
      have HR3 := Lib.hid hR3
      have HO3 := Lib.hid hO3
      clear hco hB3 hO3 hv3 hR3 hpe2 HV2 HR2 HE2 HZ2
      go_wp2
      go_ret
      have hO4 := own_stay HO3.out (V' := w3.setCell ⟨pb + 1, 0, none⟩ (.slice (some ⟨g, 0, none⟩) (sortD (os.map bHi)).length cap)) (fun g' hg => heap_set_other _ _ _ _ _ (by have := (HO3.out.lt g' hg).1; omega))
      have hE4 : Ext w (w3.setCell ⟨pb + 1, 0, none⟩ (.slice (some ⟨g, 0, none⟩) (sortD (os.map bHi)).length cap)) := set_kept HE3.out (by have := HZ.out.1; omega)
      rw [← flat_encI] at hO4
      exact ⟨pb + 1, pb, _, _, rfl, ⟨row_setCell _ _ _ _ _ _ _ HV3.out, (heap_set_other _ _ _ _ _ (by omega)).trans HR3.out, (own_held (enc := encI) (fun _ => rfl) rfl hO4).1, HB.out.ext hE4⟩, hE4, fun b o e => by
        injection e with e
        injection e with e
        have := HZ.out.1
        omega, by have := HZ.out.1; omega, HZ.out.1⟩
theorem ends_any {A : Option Addr} {c : Nat} {os : List Odr} {w : World} (hb : IsBook w A c os) :
    Calls Tryz.prog 98 #[.slice A os.length c] w fun e w' => ∃ pe pb A2 c2, e = .returned (.func (.func 124) #[] #[.pointer (some ⟨pe, 0, none⟩), .pointer (some ⟨pb, 0, none⟩)]) ∧ EndsAt w' pe pb A c os A2 c2 ∧ Ext w w' :=
  (ends_any2 hb).mono fun _ _ ⟨pe, pb, A2, c2, h1, h2, h3, _⟩ => ⟨pe, pb, A2, c2, h1, h2, h3⟩
end Go.Proofs.YtmlmnljbegcjcaaGreat
