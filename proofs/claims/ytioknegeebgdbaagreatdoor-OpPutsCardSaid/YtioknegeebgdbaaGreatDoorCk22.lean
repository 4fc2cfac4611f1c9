/- make of a row of records. Package ident's Row. -/
import Derived.Laws.MakeOwn
import Derived.Test.YtioknegeebgdbaaGreatDoorCk16
namespace Go.Proofs.YtioknegeebgdbaaGreatDoor
open Go.RowKit
set_option linter.unusedVariables false

namespace Rk
variable {α : Type}
theorem cells_rep (R : Rk α) (z : α) (n i : Nat) (hi : i < n * R.k) : (R.cells (List.replicate n z))[i]? = (R.enc z)[i % R.k]? := by
  obtain ⟨j, r, hj, hr, rfl⟩ := R.at_place (List.replicate n z) (by simpa using hi)
  rw [R.cells_get _ j hj r hr, List.getElem_replicate, Nat.add_comm, Nat.add_mul_mod_self_right, Nat.mod_eq_of_lt hr]
theorem make_ (R : Rk α) (z : α) (hz : R.zero.cells.toList = R.enc z) (W : World) (n : Nat) (hn : n ≤ 100000) :
    ∃ cs, (Instr.makeSlice R.tys (.int .i64 (n : Int)) (.int .i64 (n : Int))).run Tryz.prog W = .ok (.slice (some ⟨W.heap.size, 0, none⟩) n n) (W.alloc (.cells cs R.ty)) ∧ R.Blk (W.alloc (.cells cs R.ty)) W.heap.size n (List.replicate n z) := by
  obtain ⟨i0, hi, hz0, hz1, hz2⟩ := R.info_of
  have hb := R.small
  have hr := run_make (P := Tryz.prog) W R.tys R.ty i0 _ R.und hi hz0 .i64 .i64 n n (by omega) (Int.le_refl _) (by rw [hz2]; exact Int.le_trans (Int.mul_le_mul (by omega) (Int.le_refl _) (by omega) (by omega)) (show (1000 : Int) * (n : Int) ≤ _ by omega)) (by omega)
  simp only [Int.toNat_natCast] at hr
  rw [hz1] at hr
  refine ⟨_, hr, ⟨⟨_, heap_alloc_new W _, ?_, ?_⟩, by simp, by unfold maxLen; omega⟩⟩
  · rw [size_madeCells]
  · rw [List.length_replicate]
    refine List.ext_getElem? fun i => ?_
    by_cases h : i < n * R.k
    · rw [List.getElem?_take, if_pos h, Array.getElem?_toList, R.cells_rep z n i h, ← hz]
      have hm : i % R.k < R.zero.cells.size := by rw [R.zsz]; exact Nat.mod_lt _ R.pos
      unfold madeCells
      rw [Array.getElem?_map, Array.getElem?_range, if_pos h, Option.map_some, R.zsz, getElem!_pos R.zero.cells (i % R.k) hm, Array.getElem?_toList, Array.getElem?_eq_getElem hm]
    · rw [List.getElem?_take, if_neg h, List.getElem?_eq_none (by rw [R.cells_len]; simpa using h)]
end Rk
end Go.Proofs.YtioknegeebgdbaaGreatDoor
namespace Go.Proofs.YtioknegeebgdbaaGreatDoor
open Go.RowKit
set_option linter.unusedVariables false

/-- A row of ids as far as it is made: the first k. -/
def partI (p : ByteArray) (first : Int) (n k : Nat) : List Im := (List.range n).map fun (i : Nat) => if i < k then ⟨p, IntKind.i64.wrap (first + (i : Int))⟩ else ⟨⟨#[]⟩, 0⟩
theorem partI_len (p : ByteArray) (first : Int) (n k : Nat) : (partI p first n k).length = n := by simp [partI]
theorem partI_zero (p : ByteArray) (first : Int) (n : Nat) : partI p first n 0 = List.replicate n ⟨⟨#[]⟩, 0⟩ := by
  refine List.ext_getElem (by simp [partI]) fun i h1 h2 => ?_
  simp [partI]
theorem partI_step (p : ByteArray) (first : Int) (n k : Nat) (hk : k < n) : (partI p first n k).set k ⟨p, IntKind.i64.wrap (first + (k : Int))⟩ = partI p first n (k + 1) := by
  refine List.ext_getElem (by simp [partI]) fun i h1 h2 => ?_
  rw [List.getElem_set]
  simp only [partI, List.getElem_map, List.getElem_range]
  by_cases e : k = i
  · subst e
    rw [if_pos rfl, if_pos (by omega)]
  · rw [if_neg e]
    by_cases h : i < k
    · rw [if_pos h, if_pos (by omega)]
    · rw [if_neg h, if_neg (by omega)]
theorem partI_end (p : ByteArray) (first : Int) (n : Nat) (h0 : 0 ≤ first) (h1 : first ≤ 1073741824) (hn : 1 ≤ n) (hn2 : n ≤ 2000) : ikeys (partI p first n n) = rowI p.data.toList first (n : Int) := by
  unfold rowI ikeys
  rw [if_pos ⟨h0, by omega, by omega⟩, Int.toNat_natCast]
  refine List.ext_getElem (by simp [partI]) fun i h2 h3 => ?_
  have hi : i < n := by simpa [partI] using h2
  simp only [partI, List.getElem_map, List.getElem_range, if_pos hi, Im.key]
  rw [IntWalk.i64_in _ (by omega)]
set_option maxHeartbeats 2000000 in
set_option maxRecDepth 100000 in
theorem idrow_none (p : ByteArray) (first n : Int) (w : World) (h : ¬ (0 ≤ first ∧ 1 ≤ n ∧ n ≤ 2000)) :
    Calls Tryz.prog 38 #[.string p, .int .i64 first, .int .i64 n] w (IdsLeft w (rowI p.data.toList first n)) := by
  have hr : rowI p.data.toList first n = [] := by unfold rowI; rw [if_neg h]
  rw [hr]
  have HF : Hid (∀ k, IdsLeft w [] (.returned (.slice none 0 0)) (w.drewN k)) := fun k => ⟨none, 0, 0, [], rfl, rfl, Rk.Own.nil _ _, below_drewN (Below.refl _ _) k⟩
  have HF0 : Hid (IdsLeft w [] (.returned (.slice none 0 0)) w) := ⟨none, 0, 0, [], rfl, rfl, Rk.Own.nil _ _, Below.refl _ _⟩
  clear hr
  by_cases h1 : first < 0
  · go_enter Tryz.func38, Tryz.ntmps38
    clear h
    go_wp2
    go_ret
    exact HF0.out
  by_cases h2 : n < 1
  · go_enter Tryz.func38, Tryz.ntmps38
    clear h
    go_wp2
    go_ret
    exact HF0.out
  have h3 : n > 2000 := by omega
  clear h
  go_enter Tryz.func38, Tryz.ntmps38
  go_wp2
  go_ret
  exact HF0.out
set_option maxHeartbeats 2000000 in
set_option maxRecDepth 100000 in
theorem idrow_any (p : ByteArray) (first n : Int) (w : World) (hf : first ≤ 1073741824) :
    Calls Tryz.prog 38 #[.string p, .int .i64 first, .int .i64 n] w (IdsLeft w (rowI p.data.toList first n)) := by
  by_cases h : ¬ (0 ≤ first ∧ 1 ≤ n ∧ n ≤ 2000)
  · exact idrow_none p first n w h
  obtain ⟨h0, h1, h2⟩ := Decidable.not_not.1 h
  obtain ⟨m, rfl⟩ : ∃ m : Nat, n = (m : Int) := ⟨n.toNat, by omega⟩
  have hm : m ≤ 2000 := by omega
  have hm1 : 1 ≤ m := by omega
  have HE := Lib.hid (partI_end p first m h0 hf hm1 hm)
  have HST := Lib.hid (fun k hk => partI_step p first m k hk)
  have q1 : ¬ first < 0 := by omega
  have q2 : ¬ (m : Int) < 1 := by omega
  have q3 : ¬ (m : Int) > 2000 := by omega
  have q4 : ¬ (2000 : Int) < (m : Int) := by omega
  obtain ⟨cs, hmk, hblk⟩ := idR.make_ ⟨⟨#[]⟩, 0⟩ rfl w m (by omega)
  have hmk2 : (Instr.makeSlice 24 (.int .i64 (m : Int)) (.int .i64 (m : Int))).run Tryz.prog w = .ok (.slice (some ⟨w.heap.size, 0, none⟩) m m) (w.alloc (.cells cs 23)) := hmk
  rw [← partI_zero p first m] at hblk
  have HB : Hid (idR.Blk (w.alloc (.cells cs 23)) w.heap.size m (partI p first m 0)) := hblk
  have HG : Hid (Below w.heap.size w (w.alloc (.cells cs 23))) := (Below.refl _ _).alloc (Nat.le_refl _) _
  clear h hblk hmk h1 h2
  go_enter Tryz.func38, Tryz.ntmps38
  go_wp2
  generalize (w.alloc (.cells cs 23)) = wa at *
  go_loopw [23] (fun i wr => ∃ k : Nat, k ≤ m ∧ i = .int .i64 (k : Int) ∧ Hid (idR.Blk wr w.heap.size m (partI p first m k)) ∧ Hid (Below w.heap.size w wr)) (fun i _ => m - (intOf i).toNat)
  case atStart => exact ⟨0, Nat.zero_le _, rfl, HB.out, HG.out⟩
  case round =>
    clear HB HG
    obtain ⟨k, hk, rfl, hB, hG⟩ := hrel
    by_cases hlt : k < m
    · have hkl : k < (partI p first m k).length := by rw [partI_len]; exact hlt
      have e0 : (partI p first m k)[k] = ⟨⟨#[]⟩, 0⟩ := by simp [partI]
      have c0 : wr.cell? ⟨w.heap.size, k * 2, none⟩ = some (.string ⟨#[]⟩) := hB.out.cell hkl (r := 0) (by rw [e0]; rfl)
      have c1 : wr.cell? ⟨w.heap.size, k * 2 + 1, none⟩ = some (.int .i64 0) := hB.out.cell hkl (r := 1) (by rw [e0]; rfl)
      have f0 := hB.out.fz (k * 2)
      have f1 := hB.out.fz (k * 2 + 1)
      have hput : idR.Blk ((wr.setCell ⟨w.heap.size, k * 2, none⟩ (.string p)).setCell ⟨w.heap.size, k * 2 + 1, none⟩ (.int .i64 (IntKind.i64.wrap (first + (k : Int))))) w.heap.size m (partI p first m (k + 1)) := by
        rw [← HST.out k hlt]
        exact hB.out.put hkl ⟨p, IntKind.i64.wrap (first + (k : Int))⟩
      have HP := Lib.hid hput
      have HB2 : Hid (Below w.heap.size w ((wr.setCell ⟨w.heap.size, k * 2, none⟩ (.string p)).setCell ⟨w.heap.size, k * 2 + 1, none⟩ (.int .i64 (IntKind.i64.wrap (first + (k : Int)))))) :=
        hG.out.grown (Rk.setCells_grown wr w.heap.size (k * 2) [.string p, .int .i64 (IntKind.i64.wrap (first + (k : Int)))]) hG.out.size fun j hj => by simp only [Option.some.injEq] at hj; omega
      have u0 : (0 : Int) ≤ (k : Int) := by omega
      have u1 : (k : Int) < (m : Int) := by omega
      clear hput e0 hkl hB hG
      generalize hv : IntKind.i64.wrap (first + (k : Int)) = v at *
      go_wp2
      go_roundw
      case rel => exact ⟨k + 1, by omega, by go_num, HP.out, HB2.out⟩
      case measure => simp [intOf]; omega
    · obtain rfl : k = m := by omega
      have HF : Hid (IdsLeft w (rowI p.data.toList first (k : Int)) (.returned (.slice (some ⟨w.heap.size, 0, none⟩) k k)) wr) := by
        have h := hB.out.own (Nat.le_refl _)
        rw [partI_len] at h
        exact ⟨_, _, _, _, rfl, HE.out, h, hG.out⟩
      clear hB hG HE
      go_wp2
      go_ret
      exact HF.out
end Go.Proofs.YtioknegeebgdbaaGreatDoor
