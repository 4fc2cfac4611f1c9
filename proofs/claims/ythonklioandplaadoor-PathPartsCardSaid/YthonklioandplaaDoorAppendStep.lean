
/- append of strings to an own row, at a step of a region that draws its order. -/
import Derived.Test.YthonklioandplaaDoorAppend
import Derived.Deep.AppendLies
namespace Go.Proofs.YthonklioandplaaDoor
open Go.RowKit
set_option linter.unusedVariables false

theorem step_append_strs {w : World} {ops : Array Oper} {o : Oper} {a : Act} {K : Act → World → Prop} {Q : Exit → Act → World → Prop} {E : Prop} (hgd : o.guard = none) (s x : Operand)
    (ho : o.op = .call { callee := .builtin .append, args := #[s, x], argTypes := #[22, 22] })
    (B : Nat) (v : Value) (ls tt : List (List UInt8)) (hs : a.eval s = v) (hown : OwnS w B v ls) (A : Option Addr) (cap n : Nat) (hx : a.eval x = .slice A n cap) (hn : n = tt.length) (hnil : A = none → cap = 0) (ht : Strs w w.heap.size A (toBs tt)) (hB : B ≤ w.heap.size) (hle : ls.length + tt.length ≤ 1000000)
    (h : ∀ v' w', OwnS w' B v' (ls ++ tt) → w.grownBy w' v.ownBlock → K (a.put o.dst v') w') : if Region.wanted o (yielded ops a.tmps) = true then Oper.wp Tryd.prog o a w K Q else E := by
  have hw : Region.wanted o (yielded ops a.tmps) = true := by simp [Region.wanted, hgd]
  rw [if_pos hw]
  subst hn
  obtain ⟨i0, hi, hz0, hz1, hz2⟩ := info_parts info_str
  cases A with
  | none =>
    have h0 : tt = [] := by
      cases tt with
      | nil => rfl
      | cons y r => exact absurd (ht (by simp [toBs])) (by rintro ⟨_, _, e, _⟩; cases e)
    subst h0
    rw [hnil rfl] at hx
    have hrun := run_append_owned_none (P := Tryd.prog) (w := w) B 22 o.type 9 i0 1 Tryd.underlying22 hi v _ _ hown
    have hk := h v w (by simpa using hown) ⟨rfl, rfl, rfl, Nat.le_refl _, fun _ _ _ => rfl⟩
    unfold Oper.wp
    simp [execOp, ho, resolve, invoke, builtin, hs, hx, hrun, Result.andThen]
    exact hk
  | some ad =>
    refine wp_append_own w s x 22 ho B 9 i0 (.string ByteArray.empty) 1 16 Tryd.underlying22 hi hz0 hz1 hz2 rfl (by decide) v ls.length (ls.map encStr) hs hown ad tt.length cap (tt.map encStr) hx (by simp) ?_ (oneCell_str tt) (by unfold maxLen; omega) (by omega) hB ?_
    · intro j u hu
      obtain ⟨hj, hju⟩ := List.getElem?_eq_some_iff.1 hu
      have hj2 : j < tt.length := by simpa using hj
      obtain ⟨b, off, e, hb, hc⟩ := ht (by rw [toBs_len]; omega)
      simp only [Option.some.injEq] at e
      subst e
      have hadd : (⟨b, off, none⟩ : Addr).add j = ⟨b, off + j, none⟩ := by unfold Addr.add; split <;> simp_all
      rw [hadd, hc j (by rw [toBs_len]; exact hj2), ← hju]
      simp [toBs, encStr_eq]
    · intro v' w' hown' hgrow _
      refine h v' w' ?_ hgrow
      unfold OwnS
      rw [List.length_append, List.map_append]
      exact hown'
end Go.Proofs.YthonklioandplaaDoor
