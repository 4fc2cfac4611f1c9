
/- append of strings to a row that the call made. -/
import Derived.Test.YthenlajknoddcaaGreatDoorStr
import Derived.Laws.AppendOwnNone
import Derived.OwnWalk
namespace Go.Proofs.YthenlajknoddcaaGreatDoor
open Go.RowKit
set_option linter.unusedVariables false

theorem info_str : (Tryz.prog.info? 9).map (fun i => (i.zero, i.size, i.bytes)) = some (some (.string ByteArray.empty), 1, 16) := by kernel_rfl
theorem oneCell_str (ls : List (List UInt8)) : ∀ u ∈ ls.map encStr, u.oneCell' = true := by
  intro u hu
  obtain ⟨l, _, rfl⟩ := List.mem_map.1 hu
  rfl
theorem wpList_append_strs {w : World} {ops : Array Oper} {rest : List Oper} {o : Oper} {a : Act} {Q : Exit → Act → World → Prop} (hgd : o.guard = none) (s x : Operand)
    (ho : o.op = .call { callee := .builtin .append, args := #[s, x], argTypes := #[27, 27] })
    (B : Nat) (v : Value) (ls tt : List (List UInt8)) (hs : a.eval s = v) (hown : OwnS w B v ls) (A : Option Addr) (cap n : Nat) (hx : a.eval x = .slice A n cap) (hn : n = tt.length) (hnil : A = none → cap = 0) (ht : Strs w w.heap.size A (toBs tt)) (hB : B ≤ w.heap.size) (hle : ls.length + tt.length ≤ 1000000)
    (h : ∀ v' w', OwnS w' B v' (ls ++ tt) → w.grownBy w' v.ownBlock → wpList Tryz.prog ops Q rest (a.put o.dst v') w') : wpList Tryz.prog ops Q (o :: rest) a w := by
  subst hn
  obtain ⟨i0, hi, hz0, hz1, hz2⟩ := info_parts info_str
  cases A with
  | none =>
    have h0 : tt = [] := by
      cases tt with
      | nil => rfl
      | cons y r => exact absurd (ht (by simp [toBs])) (by rintro ⟨_, _, e, _⟩; cases e)
    subst h0
    rw [hnil rfl] at hx
    refine wpList_append_own_none hgd s x 27 ho B 9 i0 1 Tryz.underlying27 hi v _ _ hs hown hx ?_
    exact h v w (by simpa using hown) ⟨rfl, rfl, rfl, Nat.le_refl _, fun _ _ _ => rfl⟩
  | some ad =>
    refine wpList_append_own w hgd s x 27 ho B 9 i0 (.string ByteArray.empty) 1 16 Tryz.underlying27 hi hz0 hz1 hz2 rfl (by decide) v ls.length (ls.map encStr) hs hown ad tt.length cap (tt.map encStr) hx (by simp) ?_ (oneCell_str tt) (by unfold maxLen; omega) (by omega) hB ?_
    · intro j u hu
      obtain ⟨hj, hju⟩ := List.getElem?_eq_some_iff.1 hu
      have hj2 : j < tt.length := by simpa using hj
      obtain ⟨b, off, e, hb, hc⟩ := ht (by rw [toBs_len]; omega)
      simp only [Option.some.injEq] at e
      subst e
      have hadd : (⟨b, off, none⟩ : Addr).add j = ⟨b, off + j, none⟩ := by unfold Addr.add; split <;> simp_all
      rw [hadd, hc j (by rw [toBs_len]; exact hj2), ← hju]
      simp [toBs, encStr_eq]
    · intro v' w' hown' hgrow _
      refine h v' w' ?_ hgrow
      unfold OwnS
      rw [List.length_append, List.map_append]
      exact hown'
/-- The same, the new row's address and room named. -/
theorem wpList_append_row {w : World} {ops : Array Oper} {rest : List Oper} {o : Oper} {a : Act} {Q : Exit → Act → World → Prop} (hgd : o.guard = none) (s x : Operand)
    (ho : o.op = .call { callee := .builtin .append, args := #[s, x], argTypes := #[27, 27] })
    (B : Nat) (v : Value) (ls tt : List (List UInt8)) (hs : a.eval s = v) (hown : OwnS w B v ls) (A : Option Addr) (cap n : Nat) (hx : a.eval x = .slice A n cap) (hn : n = tt.length) (hnil : A = none → cap = 0) (ht : Strs w w.heap.size A (toBs tt)) (hB : B ≤ w.heap.size) (hle : ls.length + tt.length ≤ 1000000)
    (m : Nat) (hm : m = ls.length + tt.length)
    (h : ∀ A' cap' w', OwnS w' B (.slice A' m cap') (ls ++ tt) → Strs w' w'.heap.size A' (toBs (ls ++ tt)) → w.grownBy w' v.ownBlock → wpList Tryz.prog ops Q rest (a.put o.dst (.slice A' m cap')) w') : wpList Tryz.prog ops Q (o :: rest) a w := by
  refine wpList_append_strs hgd s x ho B v ls tt hs hown A cap n hx hn hnil ht hB hle fun v' w' ho' hg' => ?_
  obtain ⟨A', cap', rfl, hs', _, _⟩ := ho'.strs
  have e : (ls ++ tt).length = m := by rw [List.length_append, hm]
  rw [e] at ho' ⊢
  exact h A' cap' w' ho' hs' hg'
theorem ownBlock_ge {w : World} {B : Nat} {v : Value} {ls : List (List UInt8)} (h : OwnS w B v ls) : ∀ k, v.ownBlock = some k → B ≤ k := fun k hk => (World.ownsRow.lt h k hk).1
theorem own_made (w : World) (B : Nat) (hB : B ≤ w.heap.size) : OwnS (w.alloc (.cells #[] 9)) B (.slice (some ⟨w.heap.size, 0, none⟩) 0 0) [] :=
  w.ownsRow_made #[] 0 hB (Nat.zero_le _) rfl
theorem Strs.take {w : World} {B : Nat} {A : Option Addr} {ls : List (List UInt8)} (h : Strs w B A (toBs ls)) (j : Nat) : Strs w B A (toBs (ls.take j)) := fun hp => by
  have hl : 0 < (toBs ls).length := by rw [toBs_len] at *; rw [List.length_take] at hp; omega
  obtain ⟨b, off, e, hb, hc⟩ := h hl
  refine ⟨b, off, e, hb, fun i hi => ?_⟩
  have hi2 : i < (toBs ls).length := by rw [toBs_len] at *; rw [List.length_take] at hi; omega
  rw [hc i hi2]
  simp [toBs]
theorem Strs.drop {w : World} {B b off : Nat} {ls : List (List UInt8)} (h : Strs w B (some ⟨b, off, none⟩) (toBs ls)) (j : Nat) : Strs w B (some ⟨b, off + j, none⟩) (toBs (ls.drop j)) := fun hp => by
  have hl : j < (toBs ls).length := by rw [toBs_len] at *; rw [List.length_drop] at hp; omega
  obtain ⟨b', off', e, hb, hc⟩ := h (by omega)
  cases e
  refine ⟨b, off + j, rfl, hb, fun i hi => ?_⟩
  have hi2 : j + i < (toBs ls).length := by rw [toBs_len] at *; rw [List.length_drop] at hi; omega
  rw [Nat.add_assoc, hc (j + i) hi2]
  simp [toBs]
theorem below_append {w0 w w' : World} {B : Nat} {v : Value} {ls : List (List UInt8)} (hb : Below B w0 w) (ho : OwnS w B v ls) (hg : w.grownBy w' v.ownBlock) (hB : B ≤ w0.heap.size) : Below B w0 w' :=
  hb.grown hg (Nat.le_trans hB hb.size) (ownBlock_ge ho)
theorem strs_one (w : World) (s : ByteArray) : Strs (w.alloc (.cells #[.string s] 9)) (w.alloc (.cells #[.string s] 9)).heap.size (some ⟨w.heap.size, 0, none⟩) (toBs [s.data.toList]) := by
  have h := strs_new w [s]
  have e : toBs [s.data.toList] = [s] := by simp [toBs, toB_of]
  rw [e]
  exact h.more (by simp)
/-- A part of a row of strings. -/
theorem Strs.part {w : World} {B : Nat} {A : Option Addr} {ls : List (List UInt8)} (h : Strs w B A (toBs ls)) (j n : Nat) (A2 : Option Addr) (hA : ∀ b off, A = some ⟨b, off, none⟩ → j < ls.length → A2 = some ⟨b, off + j, none⟩) : Strs w B A2 (toBs ((ls.drop j).take n)) := fun hp => by
  have hl : j < ls.length := by rw [toBs_len, List.length_take, List.length_drop] at hp; omega
  obtain ⟨b, off, e, hb, hc⟩ := h (by rw [toBs_len]; omega)
  refine ⟨b, off + j, hA b off e hl, hb, fun i hi => ?_⟩
  have hi2 : j + i < (toBs ls).length := by rw [toBs_len] at *; rw [List.length_take, List.length_drop] at hi; omega
  rw [Nat.add_assoc, hc (j + i) hi2]
  simp [toBs]

theorem add_row (b off a : Nat) : (⟨b, off, none⟩ : Addr).add a = ⟨b, off + a, none⟩ := by unfold Addr.add; split <;> simp_all
end Go.Proofs.YthenlajknoddcaaGreatDoor
