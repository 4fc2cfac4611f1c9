
/- The library's sort of records in a block of their own: what its worlds leave there. -/
import Derived.Test.YthenlajknoddcaaGreatDoorRecAt
import Derived.Shelf.GgSortFunc.InsertionK
namespace Go.Proofs.YthenlajknoddcaaGreatDoor
open Go.RowKit
set_option linter.unusedVariables false

namespace Rk
theorem put_size (c : Array Value) (off : Nat) (F : Array Value) : (Sort.putCells id off F c).size = c.size := by simp [Sort.putCells]
theorem enc_get {α : Type} (R : Rk α) (x : α) {r : Nat} (hr : r < R.k) : (R.enc x)[r]? = some (R.enc x)[r]! := by
  have h : r < (R.enc x).length := by rw [R.len]; exact hr
  rw [List.getElem?_eq_getElem h, getElem!_pos (R.enc x) r h]
variable {α : Type} [Inhabited α] (R : Rk α)
theorem flat_take (d : Array α) (cur : Array Value) (h : d.size * R.k ≤ cur.size) : (Sort.putCells id 0 (Sort.flatK R.enc R.k d) cur).toList.take (d.size * R.k) = R.cells d.toList := by
  refine List.ext_getElem? fun t => ?_
  by_cases ht : t < d.size * R.k
  · rw [List.getElem?_take, if_pos ht, Array.getElem?_toList]
    simp only [Sort.putCells, Array.getElem?_mapIdx]
    rw [Array.getElem?_eq_getElem (by omega), Option.map_some, if_pos ⟨Nat.zero_le _, by simpa using ht⟩, Nat.sub_zero, Sort.get_flatK _ _ _ _ ht]
    obtain ⟨j, r, hj, hr, rfl⟩ := R.at_place d.toList (by simpa using ht)
    rw [R.cells_get _ j hj r hr, Nat.add_comm, Nat.add_mul_mod_self_right, Nat.mod_eq_of_lt hr, Nat.add_mul_div_right _ _ R.pos, Nat.div_eq_of_lt hr, Nat.zero_add, getElem!_pos d j (by simpa using hj), Array.getElem_toList, R.enc_get _ hr]
    rfl
  · rw [List.getElem?_take, if_neg ht, List.getElem?_eq_none (by rw [R.cells_len]; simpa using ht)]
variable {R} {w : World} {g cap : Nat} {l : List α}
theorem Blk.holdsK (k : R.Blk w g cap l) : Sort.HoldsK R.enc R.k w g 0 l.toArray := by
  intro t ht
  rw [Sort.size_flatK] at ht
  refine ⟨?_, k.fz _⟩
  obtain ⟨j, r, hj, hr, rfl⟩ := R.at_place l (by simpa using ht)
  have hc := k.cell hj (R.enc_get _ hr)
  rw [Sort.get_flatK _ _ _ _ ht, Nat.zero_add, Nat.add_comm, Nat.add_mul_mod_self_right, Nat.mod_eq_of_lt hr, Nat.add_mul_div_right _ _ R.pos, Nat.div_eq_of_lt hr, Nat.zero_add, getElem!_pos l.toArray j (by simpa using hj), Nat.add_comm]
  rw [hc]
  simp
theorem sortWorld_block (w : World) (g n : Nat) (d : Array α) (os : Array Obj) {cur : Array Value} {t : TypeId} {fz : Nat × Nat} (h : w.heap[g]? = some (.cells cur t fz)) :
    (sortWorldK R.enc R.k w g 0 n d os).heap[g]? = some (.cells (Sort.putCells id 0 (Sort.flatK R.enc R.k d) cur) t fz) := by
  have hlt : g < w.heap.size := (Array.getElem?_eq_some_iff.1 h).1
  unfold sortWorldK Sort.grow Sort.putRowK Sort.putRow Sort.mapBlock Sort.ahead
  simp only
  rw [Array.getElem?_append_left (by simpa using hlt), Array.getElem?_modify, if_pos rfl, h]
  rfl
theorem sortWorld_grown (w : World) (g n : Nat) (d : Array α) (os : Array Obj) : w.grownBy (sortWorldK R.enc R.k w g 0 n d os) (some g) := by
  refine ⟨rfl, rfl, rfl, ?_, fun k hk hne => ?_⟩
  · unfold sortWorldK Sort.grow Sort.putRowK Sort.putRow Sort.mapBlock Sort.ahead
    simp
  · have h : g ≠ k := fun e => hne (by simp [e])
    unfold sortWorldK Sort.grow Sort.putRowK Sort.putRow Sort.mapBlock Sort.ahead
    simp only
    rw [Array.getElem?_append_left (by simpa using hk), Array.getElem?_modify, if_neg h]
theorem Blk.sorted (k : R.Blk w g cap l) (n : Nat) (d : Array α) (os : Array Obj) (hd : d.size = l.length) : R.Blk (sortWorldK R.enc R.k w g 0 n d os) g cap d.toList := by
  obtain ⟨cur, h1, h2, h3⟩ := k.h
  have hcap := k.len
  refine ⟨⟨_, sortWorld_block w g n d os h1, by rw [put_size]; exact h2, ?_⟩, by simpa [hd] using k.len, k.max⟩
  rw [Array.length_toList]
  exact R.flat_take d cur (by rw [h2, hd]; exact Nat.mul_le_mul_right _ hcap)
end Rk
end Go.Proofs.YthenlajknoddcaaGreatDoor
