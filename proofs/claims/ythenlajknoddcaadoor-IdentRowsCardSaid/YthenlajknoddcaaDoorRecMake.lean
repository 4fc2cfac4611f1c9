
/- make of a row of records. -/
import Derived.Test.YthenlajknoddcaaDoorRecAt
import Derived.Laws.MakeOwn
namespace Go.Proofs.YthenlajknoddcaaDoor
open Go.RowKit
set_option linter.unusedVariables false

namespace Rk
variable {α : Type}
theorem cells_rep (R : Rk α) (z : α) (n i : Nat) (hi : i < n * R.k) : (R.cells (List.replicate n z))[i]? = (R.enc z)[i % R.k]? := by
  obtain ⟨j, r, hj, hr, rfl⟩ := R.at_place (List.replicate n z) (by simpa using hi)
  rw [R.cells_get _ j hj r hr, List.getElem_replicate, Nat.add_comm, Nat.add_mul_mod_self_right, Nat.mod_eq_of_lt hr]
theorem make_ (R : Rk α) (z : α) (hz : R.zero.cells.toList = R.enc z) (W : World) (n : Nat) (hn : n ≤ 100000) :
    ∃ cs, (Instr.makeSlice R.tys (.int .i64 (n : Int)) (.int .i64 (n : Int))).run Tryd.prog W = .ok (.slice (some ⟨W.heap.size, 0, none⟩) n n) (W.alloc (.cells cs R.ty)) ∧ R.Blk (W.alloc (.cells cs R.ty)) W.heap.size n (List.replicate n z) := by
  obtain ⟨i0, hi, hz0, hz1, hz2⟩ := R.info_of
  have hb := R.small
  have hr := run_make (P := Tryd.prog) W R.tys R.ty i0 _ R.und hi hz0 .i64 .i64 n n (by omega) (Int.le_refl _) (by rw [hz2]; exact Int.le_trans (Int.mul_le_mul (by omega) (Int.le_refl _) (by omega) (by omega)) (show (1000 : Int) * (n : Int) ≤ _ by omega)) (by omega)
  simp only [Int.toNat_natCast] at hr
  rw [hz1] at hr
  refine ⟨_, hr, ⟨⟨_, heap_alloc_new W _, ?_, ?_⟩, by simp, by unfold maxLen; omega⟩⟩
  · rw [size_madeCells]
  · rw [List.length_replicate]
    refine List.ext_getElem? fun i => ?_
    by_cases h : i < n * R.k
    · rw [List.getElem?_take, if_pos h, Array.getElem?_toList, R.cells_rep z n i h, ← hz]
      have hm : i % R.k < R.zero.cells.size := by rw [R.zsz]; exact Nat.mod_lt _ R.pos
      unfold madeCells
      rw [Array.getElem?_map, Array.getElem?_range, if_pos h, Option.map_some, R.zsz, getElem!_pos R.zero.cells (i % R.k) hm, Array.getElem?_toList, Array.getElem?_eq_getElem hm]
    · rw [List.getElem?_take, if_neg h, List.getElem?_eq_none (by rw [R.cells_len]; simpa using h)]
end Rk
end Go.Proofs.YthenlajknoddcaaDoor
