
/- Package path's Join, of names; all of package path. -/
import Derived.Test.YthonklioandplaaDoorPathLs
namespace Go.Proofs.YthonklioandplaaDoor
open Go.RowKit
set_option linter.unusedVariables false

theorem libjoin_eq : ∀ l : List (List UInt8), Lib.join l [47] = joinB l
  | [] => rfl
  | [x] => Lib.join_one x [47]
  | x :: y :: l => by
    have ih := libjoin_eq (y :: l)
    rw [join_cons x (by simp), ← ih, Lib.join_cons, Lib.join_cons]
    simp [Lib.joinTail]
theorem strjoin_any (A : Option Addr) (ls : List (List UInt8)) (cap : Nat) (w : World) (hs : Strs w w.heap.size A (toBs ls)) (hr : Room A ls.length cap) (hn : ls.length ≤ 1000000) (hl : (joinB ls).length ≤ 1000000) :
    Calls Tryd.prog 28 #[.slice A ls.length cap, .string ⟨#[47]⟩] w fun e w' => e = .returned (.string (toB (joinB ls))) ∧ Below w.heap.size w w' := by
  by_cases h0 : ls.length = 0
  · have e := List.length_eq_zero_iff.1 h0
    subst e
    refine (Tryd.strings_Join_none A cap ⟨#[47]⟩ w).mono ?_
    rintro e w' ⟨rfl, rfl⟩
    exact ⟨rfl, Below.refl _ _⟩
  · obtain ⟨b, off, rfl, hb, hc⟩ := hs (by rw [toBs_len]; omega)
    have e : (toBs ls).map (·.data.toList) = ls := lists_toBs ls
    have h := Tryd.strings_Join b off cap (toBs ls) ⟨#[47]⟩ w (fun j x hx => by
      obtain ⟨hj, hv⟩ := List.getElem?_eq_some_iff.1 hx
      rw [hc j hj, hv]) hb (by rw [toBs_len]; omega) (by rw [toBs_len]; exact hr.2) (by
      rw [e]
      show (Lib.join ls [47]).length ≤ _
      rw [libjoin_eq]
      omega)
    rw [e, toBs_len, show Lib.join ls (⟨#[47]⟩ : ByteArray).data.toList = joinB ls from libjoin_eq ls] at h
    exact h
theorem joined_small {ls : List (List UInt8)} (h1 : ls.length ≤ 20) (h2 : ∀ x ∈ ls, x.length ≤ 100) : (joinB ls).length ≤ 1000000 := by
  have : (ls.map List.length).sum ≤ 100 * ls.length := by
    clear h1
    induction ls with
    | nil => simp
    | cons x l ih =>
      have := h2 x (by simp)
      have := ih fun y hy => h2 y (List.mem_cons_of_mem _ hy)
      simp only [List.map_cons, List.sum_cons, List.length_cons]
      omega
  rw [join_length]
  omega
theorem joinP_names {ls : List (List UInt8)} (h : ls.all nameP = true) : joinP nameP ls = if names nameP (joinB ls) ≠ [] then joinB ls else [] := by
  by_cases h0 : ls = []
  · subst h0
    unfold joinP
    rw [show names nameP (joinB []) = [] from names_nil]
    rfl
  · have e := names_join nameP h0 h fun x hx => nameP_slash hx
    unfold joinP
    rw [e]
    by_cases k : (joinB ls).length ≤ 200 ∧ ls.length ≤ 16
    · rw [if_pos k, if_pos rfl, if_pos h0]
    · rw [if_neg k, if_neg (fun e => h0 e.symm), if_neg (by simp)]
end Go.Proofs.YthonklioandplaaDoor
