/- Texts of the package drop, joined: RefFirst. -/
import Derived.Test.YtckndnaohggmhaaC31
/- The reference's Part; and what its First comes to. -/
namespace Go.Proofs.Ytckndnaohggmhaa
open Go.RowKit Go.Shelf

theorem info62 : (Try.prog.info? 62).map (fun i => i.size) = some 3 := by kernel_rfl
theorem run_head (g off n cap k : Nat) (hk : k ≤ cap) (w : World) : (Instr.slice 23 (.slice (some ⟨g, off, none⟩) n cap) none (some (.int .i64 (k : Int))) none).run Try.prog w = .ok (.slice (some ⟨g, off, none⟩) k cap) w := by
  obtain ⟨i0, hi, hz⟩ := Option.map_eq_some_iff.1 info62
  simp [Instr.slice, Instr.sliceBounds, Instr.sliceBound, run_underlying Try.underlying23, asIntOf, sizeOf, typeInfo, hi, Addr.add_lit, Result.andThen]
  first
    | (rw [if_pos (by omega)]; simp)
    | (split <;> simp_all <;> omega)

section
variable {w : World} {Wd : Int} {b off : Nat} {A : Option Addr} {n c : Nat} {n' c' : Nat} {ss : List (Int × Int)} {ds : List (Int × Int × Int)}

set_option maxRecDepth 100000 in
set_option maxHeartbeats 1000000 in
theorem part_ref (k : Nat) (hk : k ≤ c') (w : World) :
    Calls Try.prog 83 #[.agg #[.int .i64 Wd, .slice A n c, .slice (some ⟨b, off, none⟩) n' c'], .int .i64 (k : Int)] w fun e w' => e = .returned (.agg #[.int .i64 Wd, .slice A n c, .slice (some ⟨b, off, none⟩) k c']) ∧ Ext w w' := by
  have hsl := run_head b off n' c' k hk
  go_enter Try.func83, Try.ntmps83
  go_wp2
  exact bodyPost_ret (v := .agg #[.int .i64 Wd, .slice A n c, .slice (some ⟨b, off, none⟩) k c']) (by simp [results, Try.f83, go_sem]) rfl ⟨rfl, (ext_alloc _ _).trans (ext_alloc _ _)⟩

theorem bathErr_take (h : bathErr Wd ss ds = 0) (k : Nat) : bathErr Wd ss (ds.take k) = 0 := by
  obtain ⟨h1, h2, h3, h4, h5⟩ := bath_ok h
  have hall : (ds.take k).all (dropOk ss.length) = true := List.all_eq_true.2 fun x hx => List.all_eq_true.1 h5 x (List.mem_of_mem_take hx)
  rw [bathErr_more h1, if_pos ⟨h2.1, by rw [List.length_take]; omega⟩, if_pos h3, if_pos h4, if_pos hall]
end

/-- The least number from 0 to len of which p holds, or len + 1. -/
def leastTo (p : Nat → Bool) (len L : Nat) : Prop := (L = len + 1 ∨ (L ≤ len ∧ p L = true)) ∧ ∀ m, m < L → m ≤ len → p m = false
theorem leastTo_findIdx {p : Nat → Bool} {len L : Nat} (h0 : p 0 = false) (h : leastTo p len L) : L = (List.range len).findIdx (fun j => p (j + 1)) + 1 := by
  obtain ⟨h1, h2⟩ := h
  have hL0 : L ≠ 0 := by
    rintro rfl
    rcases h1 with h1 | h1
    · omega
    · rw [h0] at h1
      cases h1.2
  rcases h1 with rfl | ⟨hle, hp⟩
  · rw [findIdx_miss _ _ (fun j hj => by rw [List.getElem_range]; rw [List.length_range] at hj; exact h2 _ (by omega) (by omega)), List.length_range]
  · have hl : L - 1 < (List.range len).length := by rw [List.length_range]; omega
    rw [findIdx_hit _ _ (L - 1) hl (fun j hj => by rw [List.getElem_range]; exact h2 _ (by omega) (by omega)) (by rw [List.getElem_range, show L - 1 + 1 = L from by omega]; exact hp)]
    omega
end Go.Proofs.Ytckndnaohggmhaa
