
/- Rows of hunks that a call makes: append. -/
import Derived.Test.YtmffmhadimeplaaHunk
import Derived.Deep.AppendLies
namespace Go.Proofs.Ytmffmhadimeplaa
open Go.RowKit
set_option linter.unusedVariables false

def hcells (hs : List Hm) : List Value := hs.flatMap Hm.cells
theorem hcells_len : ∀ (hs : List Hm), (hcells hs).length = hs.length * 3
  | [] => rfl
  | h :: hs => by
    have := hcells_len hs
    simp only [hcells, List.flatMap_cons, List.length_append, List.length_cons] at *
    rw [this]
    show 3 + _ = _
    omega
theorem hcells_get : ∀ (hs : List Hm) (j : Nat) (hj : j < hs.length), (hcells hs)[j * 3]? = some (.int .i64 hs[j].at_) ∧ (hcells hs)[j * 3 + 1]? = some (.slice hs[j].a1 hs[j].old.length hs[j].c1) ∧ (hcells hs)[j * 3 + 2]? = some (.slice hs[j].a2 hs[j].new.length hs[j].c2)
  | h :: hs, 0, hj => ⟨rfl, rfl, rfl⟩
  | h :: hs, j + 1, hj => by
    have ih := hcells_get hs j (by simpa using hj)
    have e : ∀ r, (hcells (h :: hs))[(j + 1) * 3 + r]? = (hcells hs)[j * 3 + r]? := by
      intro r
      have e1 : hcells (h :: hs) = h.cells ++ hcells hs := rfl
      rw [e1, List.getElem?_append_right (by show 3 ≤ _; omega)]
      congr 1
      show _ - 3 = _
      omega
    have e0 := e 0
    rw [Nat.add_zero, Nat.add_zero] at e0
    rw [e0, e 1, e 2]
    exact ih
/-- A slice of hunks that the call made. -/
def OwnH (w : World) (B : Nat) (v : Value) (hs : List Hm) : Prop := w.ownsRow B 47 3 v hs.length (hcells hs)
theorem OwnH.nil (w : World) (B : Nat) : OwnH w B (.slice none 0 0) [] := w.ownsRow_nil B 47 3
theorem OwnH.hks {w : World} {B : Nat} {v : Value} {hs : List Hm} (h : OwnH w B v hs) (hok : ∀ h ∈ hs, h.Ok w w.heap.size) : ∃ A cap, v = .slice A hs.length cap ∧ Hks w w.heap.size A hs ∧ Room A hs.length cap := by
  have h' := h
  rcases h.2 with ⟨rfl, h0⟩ | ⟨g, cap, cur, rfl, _, hg, hcap, _⟩
  · have e : hs = [] := List.length_eq_zero_iff.1 h0
    subst e
    exact ⟨none, 0, rfl, Hks.nil, fun _ => rfl, Nat.le_refl _⟩
  · refine ⟨_, cap, rfl, ⟨fun hp => ⟨g, 0, rfl, (Array.getElem?_eq_some_iff.1 hg).1, fun j hj => ?_⟩, hok⟩, (fun e => by cases e), hcap⟩
    obtain ⟨c0, c1, c2⟩ := hcells_get hs j hj
    have e : ∀ i, (⟨g, 0, none⟩ : Addr).add i = ⟨g, i, none⟩ := fun i => by unfold Addr.add; split <;> simp_all
    have k0 := h'.cells (g := g) rfl _ _ c0
    have k1 := h'.cells (g := g) rfl _ _ c1
    have k2 := h'.cells (g := g) rfl _ _ c2
    rw [e] at k0 k1 k2
    rw [Nat.zero_add]
    exact ⟨k0, k1, k2⟩
theorem OwnH.ne_strs {w : World} {B B2 : Nat} {v u : Value} {hs : List Hm} {ls : List (List UInt8)} (h : OwnH w B v hs) (g : OwnS w B2 u ls) : ∀ k, u.ownBlock = some k → v.ownBlock ≠ some k := by
  intro k hk hv
  rcases h.2 with ⟨rfl, _⟩ | ⟨g1, c1, cur1, rfl, _, hg1, _⟩
  · simp [Value.ownBlock] at hv
  · rcases g.2 with ⟨rfl, _⟩ | ⟨g2, c2, cur2, rfl, _, hg2, _⟩
    · simp [Value.ownBlock] at hk
    · simp only [Value.ownBlock, Option.some.injEq] at hk hv
      subst hk hv
      rw [hg1] at hg2
      simp only [Option.some.injEq, Obj.cells.injEq] at hg2
      exact absurd hg2.2.1 (by decide)
theorem HunkAt.ne_strs {w : World} {g B : Nat} {h : Hm} {v : Value} {ls : List (List UInt8)} (k : HunkAt w g h) (o : OwnS w B v ls) : v.ownBlock ≠ some g := by
  intro hv
  rcases o.2 with ⟨rfl, _⟩ | ⟨g2, c2, cur2, rfl, _, hg2, _⟩
  · simp [Value.ownBlock] at hv
  · simp only [Value.ownBlock, Option.some.injEq] at hv
    subst hv
    rw [show w.heap[g2]? = _ from k] at hg2
    simp only [Option.some.injEq, Obj.cells.injEq] at hg2
    exact absurd hg2.2.1 (by decide)
theorem info_hunk : (Try.prog.info? 47).map (fun i => (i.zero, i.size, i.bytes)) = some (some (.agg #[.int .i64 0, .slice none 0 0, .slice none 0 0]), 3, 56) := by kernel_rfl
theorem wpList_append_hunk {w : World} {ops : Array Oper} {rest : List Oper} {o : Oper} {a : Act} {Q : Exit → Act → World → Prop} (hgd : o.guard = none) (s x : Operand)
    (ho : o.op = .call { callee := .builtin .append, args := #[s, x], argTypes := #[25, 25] })
    (B : Nat) (v : Value) (hs : List Hm) (hv : a.eval s = v) (hown : OwnH w B v hs) (h : Hm) (b : Nat) (hx : a.eval x = .slice (some ⟨b, 0, none⟩) 1 1) (hb : HunkAt w b h) (hB : B ≤ w.heap.size) (hle : hs.length ≤ 100000)
    (H : Nat) (hH : w.heap.size = H)
    (k : ∀ g cap w', OwnH w' B (.slice (some ⟨g, 0, none⟩) (hs.length + 1) cap) (hs ++ [h]) → w.grownBy w' v.ownBlock → (v.ownBlock = some g ∨ g = H) → wpList Try.prog ops Q rest (a.put o.dst (.slice (some ⟨g, 0, none⟩) (hs.length + 1) cap)) w') : wpList Try.prog ops Q (o :: rest) a w := by
  obtain ⟨i0, hi, hz0, hz1, hz2⟩ := info_parts info_hunk
  refine wpList_append_lies w hgd s x 25 ho B 47 i0 _ 3 56 Try.underlying25 hi hz0 hz1 hz2 rfl (by decide) v hs.length (hcells hs) hv hown ⟨b, 0, none⟩ 1 1 h.cells hx rfl ?_ ?_ (by decide) (by unfold maxLen; omega) (by omega) hB H hH ?_
  · exact World.news_of_block hb
  · intro u hu
    simp only [Hm.cells, List.mem_cons, List.not_mem_nil, or_false] at hu
    rcases hu with rfl | rfl | rfl <;> rfl
  · intro g cap w' ho' hg hat _
    refine k g cap w' ?_ hg hat
    unfold OwnH
    rw [List.length_append]
    have e : hcells (hs ++ [h]) = hcells hs ++ h.cells := by simp [hcells]
    rw [e]
    exact ho'
end Go.Proofs.Ytmffmhadimeplaa
