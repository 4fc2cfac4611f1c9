
/- A call hands back a row of ids of its own. -/
import Derived.Test.YthenlajknoddcaaDoorId
namespace Go.Proofs.YthenlajknoddcaaDoor
open Go.RowKit
set_option linter.unusedVariables false

/-- A call hands back ids, that it made. -/
def IdsLeft (w : World) (ks : List Ik) (e : Ending) (w' : World) : Prop := ∃ (A : Option Addr) (n c : Nat) (l : List Im), e = .returned (.slice A n c) ∧ ikeys l = ks ∧ OwnId w' w.heap.size (.slice A n c) l ∧ Below w.heap.size w w'
theorem ikeys_take_succ (l : List Im) (k : Nat) (h : k < l.length) : ikeys (l.take (k + 1)) = ikeys (l.take k) ++ [l[k].key] := by
  rw [List.take_succ_eq_append_getElem h, ikeys, List.map_append]
  rfl
/-- The patches of ids that have one, in their order. -/
def patL (l : List Im) : List (List UInt8) := ((ikeys l).map Prod.fst).filter fun p => decide (p ≠ [])
theorem patL_set (l : List Im) : setS (patL l) = patchesI (ikeys l) := rfl
theorem patL_len (l : List Im) : (patL l).length ≤ l.length := by
  have h := List.length_filter_le (fun p => decide (p ≠ [])) ((ikeys l).map Prod.fst)
  rw [List.length_map, ikeys_len] at h
  exact h
theorem patL_succ (l : List Im) (k : Nat) (h : k < l.length) : patL (l.take (k + 1)) = patL (l.take k) ++ (if l[k].p = ⟨#[]⟩ then [] else [l[k].p.data.toList]) := by
  unfold patL
  rw [ikeys_take_succ l k h, List.map_append, List.filter_append]
  congr 1
  by_cases h0 : l[k].p = ⟨#[]⟩
  · rw [if_pos h0]
    simp [Im.key, h0]
  · rw [if_neg h0]
    have : l[k].p.data.toList ≠ [] := fun e => h0 (bytes_inj (by rw [e]))
    simp only [List.map_cons, List.map_nil]
    rw [List.filter_cons_of_pos (by simpa [Im.key] using this)]
    rfl
end Go.Proofs.YthenlajknoddcaaDoor
