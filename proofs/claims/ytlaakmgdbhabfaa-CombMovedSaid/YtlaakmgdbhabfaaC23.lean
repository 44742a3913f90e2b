/- Texts of one package, joined: BestLay. -/
import Derived.Test.YtlaakmgdbhabfaaC22
import Derived.Shelf.SlLaysF0
import Derived.Shelf.SlSortCmp.InsertionK
/- Best: the library's sort, laid at the program. -/
namespace Go.Proofs.Ytlaakmgdbhabfaa
open Go.Shelf Go.RowKit Go.Lib Go.Sort
def sortRow_ren : Go.Shelf.Ren := ⟨fun | 6 => 76 | 15 => 101 | 14 => 100 | 28 => 118 | 29 => 119 | 20 => 110 | 21 => 111 | 22 => 112 | 23 => 113 | 24 => 114 | 25 => 115 | 26 => 116 | 27 => 117 | 46 => 122 | 47 => 123 | 48 => 124 | 49 => 125 | 50 => 126 | 57 => 127 | n => n, fun | 22 => 54 | 24 => 27 | 25 => 122 | 3 => 3 | 39 => 144 | 0 => 0 | 53 => 158 | 55 => 160 | 4 => 4 | 46 => 152 | 45 => 151 | 50 => 66 | 5 => 5 | 9 => 9 | 66 => 163 | 70 => 167 | 76 => 169 | 77 => 170 | n => n, fun | n => n⟩
theorem sortRow : Go.Proofs.SlLaysF0.n6 Try.prog sortRow_ren := {
  mixed := by kernel_rfl
  f6 := ⟨Try.f76.name, by decide, Try.func76.trans (congrArg some (by kernel_rfl))⟩
  f14 := ⟨Try.f100.name, by decide, Try.func100.trans (congrArg some (by kernel_rfl))⟩
  f15 := Try.func101.trans (congrArg some (by kernel_rfl))
  f20 := ⟨Try.f110.name, by decide, Try.func110.trans (congrArg some (by kernel_rfl))⟩
  f21 := ⟨Try.f111.name, by decide, Try.func111.trans (congrArg some (by kernel_rfl))⟩
  f22 := ⟨Try.f112.name, by decide, Try.func112.trans (congrArg some (by kernel_rfl))⟩
  f23 := ⟨Try.f113.name, by decide, Try.func113.trans (congrArg some (by kernel_rfl))⟩
  f24 := ⟨Try.f114.name, by decide, Try.func114.trans (congrArg some (by kernel_rfl))⟩
  f25 := ⟨Try.f115.name, by decide, Try.func115.trans (congrArg some (by kernel_rfl))⟩
  f26 := ⟨Try.f116.name, by decide, Try.func116.trans (congrArg some (by kernel_rfl))⟩
  f27 := ⟨Try.f117.name, by decide, Try.func117.trans (congrArg some (by kernel_rfl))⟩
  f28 := Try.func118.trans (congrArg some (by kernel_rfl))
  f29 := Try.func119.trans (congrArg some (by kernel_rfl))
  f46 := ⟨Try.f122.name, by decide, Try.func122.trans (congrArg some (by kernel_rfl))⟩
  f47 := Try.func123.trans (congrArg some (by kernel_rfl))
  f48 := Try.func124.trans (congrArg some (by kernel_rfl))
  f49 := ⟨Try.f125.name, by decide, Try.func125.trans (congrArg some (by kernel_rfl))⟩
  f50 := ⟨Try.f126.name, by decide, Try.func126.trans (congrArg some (by kernel_rfl))⟩
  f57 := ⟨Try.f127.name, by decide, Try.func127.trans (congrArg some (by kernel_rfl))⟩
  t0 := Try.underlying0
  a0 := Try.isAgg0
  z0 := Try.sizeOf0
  v0 := Try.zeroValue0
  t3 := Try.underlying3
  a3 := Try.isAgg3
  z3 := Try.sizeOf3
  v3 := Try.zeroValue3
  t4 := Try.underlying4
  a4 := Try.isAgg4
  z4 := Try.sizeOf4
  v4 := Try.zeroValue4
  t5 := Try.underlying5
  a5 := Try.isAgg5
  z5 := Try.sizeOf5
  v5 := Try.zeroValue5
  t9 := Try.underlying9
  a9 := Try.isAgg9
  z9 := Try.sizeOf9
  v9 := Try.zeroValue9
  t22 := Try.underlying54
  a22 := Try.isAgg54
  z22 := Try.sizeOf54
  v22 := Try.zeroValue54
  t25 := Try.underlying122
  a25 := Try.isAgg122
  z25 := Try.sizeOf122
  v25 := Try.zeroValue122
  t39 := Try.underlying144
  a39 := Try.isAgg144
  z39 := Try.sizeOf144
  v39 := Try.zeroValue144
  t45 := Try.underlying151
  a45 := Try.isAgg151
  z45 := Try.sizeOf151
  v45 := Try.zeroValue151
  t46 := Try.underlying152
  a46 := Try.isAgg152
  z46 := Try.sizeOf152
  v46 := Try.zeroValue152
  t50 := Try.underlying66
  a50 := Try.isAgg66
  z50 := Try.sizeOf66
  v50 := Try.zeroValue66
  t53 := Try.underlying158
  a53 := Try.isAgg158
  z53 := Try.sizeOf158
  v53 := Try.zeroValue158
  t55 := Try.underlying160
  a55 := Try.isAgg160
  z55 := Try.sizeOf160
  v55 := Try.zeroValue160
  t66 := Try.underlying163
  a66 := Try.isAgg163
  z66 := Try.sizeOf163
  v66 := Try.zeroValue163
  t70 := Try.underlying167
  a70 := Try.isAgg167
  z70 := Try.sizeOf167
  v70 := Try.zeroValue167
  t76 := Try.underlying169
  a76 := Try.isAgg169
  z76 := Try.sizeOf169
  v76 := Try.zeroValue169
  t77 := Try.underlying170
  a77 := Try.isAgg170
  z77 := Try.sizeOf170
  v77 := Try.zeroValue170 }
theorem ltRw (x y : Rw) : ltOf cmpRw x y = decide (x.1 < y.1 ∨ (x.1 = y.1 ∧ x.2 < y.2)) := by
  by_cases h1 : (x.1 : Int) < y.1
  · have e1 : Lib.compareInt (x.1 : Int) y.1 = -1 := if_pos h1
    have e2 : cmpRw x y = -1 := by unfold cmpRw; rw [e1, if_neg (by decide)]
    unfold ltOf
    rw [e2, decide_eq_true (by decide), decide_eq_true (.inl (by omega))]
  · by_cases h2 : (x.1 : Int) > y.1
    · have e1 : Lib.compareInt (x.1 : Int) y.1 = 1 := (if_neg h1).trans (if_pos h2)
      have e2 : cmpRw x y = 1 := by unfold cmpRw; rw [e1, if_neg (by decide)]
      unfold ltOf
      rw [e2, decide_eq_false (by decide), decide_eq_false (by omega)]
    · have e1 : Lib.compareInt (x.1 : Int) y.1 = 0 := (if_neg h1).trans (if_neg h2)
      have e2 : cmpRw x y = Lib.compareInt x.2 y.2 := by unfold cmpRw; rw [e1, if_pos rfl]
      unfold ltOf
      rw [e2]
      by_cases h3 : x.2 < y.2
      · have e3 : Lib.compareInt x.2 y.2 = -1 := if_pos h3
        rw [e3, decide_eq_true (by decide), decide_eq_true (by omega)]
      · have e3 : 0 ≤ Lib.compareInt x.2 y.2 := by unfold Lib.compareInt; rw [if_neg h3]; split <;> omega
        rw [decide_eq_false (by omega), decide_eq_false (by omega)]
theorem swoRw : SWO (ltOf cmpRw) where
  irrefl x := by rw [ltRw]; simp
  trans x y z h1 h2 := by rw [ltRw] at *; simp at *; omega
  ntrans x y z h1 h2 := by rw [ltRw] at *; simp at *; omega
theorem totRw (x y : Rw) (h1 : ltOf cmpRw x y = false) (h2 : ltOf cmpRw y x = false) : x = y := by
  rw [ltRw] at h1 h2
  simp at h1 h2
  apply Prod.ext <;> omega
theorem e77 (args : Array Value) (w : World) : (callFunc 77 args).run Try.prog w = .ok (.enter 77 args) w := enters_of Try.func77 (by kernel_rfl) rfl args w
theorem lays77 (g n : Nat) (w : World) : CmpLays Try.prog 77 #[] encRw 2 cmpRw g 0 n w := fun _ _ _ _ x y => closure77 (x.1 : Int) x.2 (y.1 : Int) y.2 _
end Go.Proofs.Ytlaakmgdbhabfaa
