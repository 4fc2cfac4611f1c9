/- Package lines' Same; package diff's copied and hunk. The reference's At of layer 3. The reference's Apply of layer 4. Rows of hunks that a call makes: append. -/
import Derived.Test.YtknommnlkdlkdaaGreatDoorShelf
import Derived.Test.YtknommnlkdlkdaaGreatDoorCk08
import Derived.Test.YtknommnlkdlkdaaGreatDoorCk03
import Derived.Test.YtknommnlkdlkdaaGreatDoorCk02
import Derived.BigQuiet
import Derived.Deep.QuietTactic
import Derived.Handy
import Derived.Test.YtknommnlkdlkdaaGreatDoorCk04
import Derived.Deep.AppendLies
namespace Go.Proofs.YtknommnlkdlkdaaGreatDoor
open Go.RowKit
set_option linter.unusedVariables false

theorem sequal_q (A A2 : Option Addr) (ss tt : List ByteArray) (cap cap2 : Nat) (w : World) (hs : Strs w w.heap.size A ss) (ht : Strs w w.heap.size A2 tt)
    (hn : ss.length ≤ 140737488351232) (hn2 : tt.length ≤ 140737488351232) :
    Calls Tryz.prog 76 #[.slice A ss.length cap, .slice A2 tt.length cap2] w fun e w' => e = .returned (.bool (decide (ss = tt))) ∧ ∃ q, w' = w.drewN q := by
  by_cases hl : ss.length = tt.length
  · by_cases h0 : ss.length = 0
    · have e1 : ss = [] := List.length_eq_zero_iff.1 h0
      have e2 : tt = [] := List.length_eq_zero_iff.1 (by omega)
      subst e1 e2
      exact (Tryz.slices_Equal_string_empty A A2 cap 0 cap2 w (by decide)).mono fun e w' ⟨h1, h2⟩ => ⟨h1, 0, h2⟩
    · obtain ⟨b, off, rfl, _, h1⟩ := hs (by omega)
      obtain ⟨b2, off2, rfl, _, h2⟩ := ht (by omega)
      have h := Tryz.slices_Equal_string b off ss.length cap b2 off2 tt.length cap2 ss tt w (Nat.le_refl _) (Nat.le_refl _) (by omega) (by omega) (fun j hj => by rw [h1 j hj]; simp [List.getD, hj]) (fun j hj => by rw [h2 j hj]; simp [List.getD, hj])
      rwa [List.take_length, List.take_length] at h
  · have hd : decide (ss = tt) = false := by
      rw [decide_eq_false_iff_not]
      exact fun e => hl (by rw [e])
    rw [hd]
    exact (Tryz.slices_Equal_string_lens A A2 ss.length cap tt.length cap2 w hl).mono fun e w' ⟨h1, h2⟩ => ⟨h1, 0, h2⟩
theorem lsame_q (A A2 : Option Addr) (la lc : List (List UInt8)) (cap cap2 : Nat) (w : World) (d : Bool) (hd : decide (la = lc) = d) (hs : Strs w w.heap.size A (toBs la)) (ht : Strs w w.heap.size A2 (toBs lc)) (hn : la.length ≤ 1000000) (hn2 : lc.length ≤ 1000000) :
    Calls Tryz.prog 45 #[.slice A la.length cap, .slice A2 lc.length cap2] w fun e w' => e = .returned (.bool d) ∧ ∃ q, w' = w.drewN q := by
  have h := sequal_q A A2 (toBs la) (toBs lc) cap cap2 w hs ht (by rw [toBs_len]; omega) (by rw [toBs_len]; omega)
  rw [toBs_len, toBs_len, show decide (toBs la = toBs lc) = d from by
    rw [← hd]
    congr 1
    refine propext ⟨fun h => ?_, fun h => by rw [h]⟩
    have := congrArg lists h
    rwa [lists_toBs, lists_toBs] at this] at h
  have HH := Lib.hid h
  clear h hs ht hd
  go_enter Tryz.func45, Tryz.ntmps45
  go_wp2_with fail
  refine HH.out.mono ?_
  rintro e w' ⟨rfl, q, rfl⟩
  go_wp2
  go_ret
  exact ⟨rfl, q, rfl⟩
theorem lsame_qq (A A2 : Option Addr) (la lc : List (List UInt8)) (cap cap2 : Nat) (w : World) (d : Bool) (hd : decide (la = lc) = d) (hs : Strs w w.heap.size A (toBs la)) (ht : Strs w w.heap.size A2 (toBs lc)) (hn : la.length ≤ 1000000) (hn2 : lc.length ≤ 1000000) (n : Nat) :
    Calls Tryz.prog 45 #[.slice A la.length cap, .slice A2 lc.length cap2] (w.drewN n) fun e w' => e = .returned (.bool d) ∧ ∃ m, w' = w.drewN m :=
  Calls.quiet_of (lsame_q A A2 la lc cap cap2 (w.drewN n) d hd hs ht hn hn2)

end Go.Proofs.YtknommnlkdlkdaaGreatDoor
namespace Go.Proofs.YtknommnlkdlkdaaGreatDoor
open Go.RowKit
set_option linter.unusedVariables false

theorem atB_no {ls part : List (List UInt8)} {a k : Nat} (hk : k < part.length) (ha : a + k < ls.length) (h : ls[a + k] ≠ part[k]) : atB ls part a = false := by
  have : ¬ ((ls.drop a).take part.length = part) := by
    intro e
    have h1 := congrArg (·[k]?) e
    simp only [List.getElem?_take, if_pos hk, List.getElem?_drop, List.getElem?_eq_getElem ha, List.getElem?_eq_getElem hk, Option.some.injEq] at h1
    exact h h1
  simp [atB, this]
theorem atB_yes {ls part : List (List UInt8)} {a : Nat} (hl : a + part.length ≤ ls.length) (h : ∀ k (hk : k < part.length), ls[a + k]'(by omega) = part[k]) : atB ls part a = true := by
  have : (ls.drop a).take part.length = part := by
    apply List.ext_getElem
    · simp; omega
    · intro k h1 h2
      simp only [List.getElem_take, List.getElem_drop]
      exact h k h2
  simp [atB, this]
  omega

end Go.Proofs.YtknommnlkdlkdaaGreatDoor
namespace Go.Proofs.YtknommnlkdlkdaaGreatDoor
open Go.RowKit
set_option linter.unusedVariables false

def plains (hs : List Hm) : List (Hk (List UInt8)) := hs.map Hm.plain
/-- Do all hunks stand? -/
def standB (la : List (List UInt8)) (hs : List Hm) : Bool := hs.all fun h => atB la h.old h.at_
theorem atB_stands {la : List (List UInt8)} {h : Hm} (h0 : 0 ≤ h.at_) : atB la h.old h.at_ = true ↔ Stands la h.plain := by
  obtain ⟨k, hk⟩ : ∃ k : Nat, h.at_ = (k : Int) := ⟨h.at_.toNat, by omega⟩
  unfold Stands Hm.plain
  simp only [hk, Int.toNat_natCast]
  unfold atB
  simp only [Bool.and_eq_true, decide_eq_true_eq, Int.toNat_natCast]
  constructor
  · rintro ⟨⟨_, h2⟩, h3⟩
    exact ⟨by omega, h3⟩
  · rintro ⟨h2, h3⟩
    exact ⟨⟨by omega, by omega⟩, h3⟩
theorem drop_may : ∀ (l : List (Hk (List UInt8))) (k : Nat), May l → May (l.drop k)
  | l, 0, h => h
  | [], k + 1, h => trivial
  | g :: l, k + 1, h => drop_may l k h.2.2
theorem drop_from {l : List (Hk (List UInt8))} {k : Nat} (h : May l) (hk : k < l.length) : From (l[k].at_ + l[k].old.length + 1) (l.drop (k + 1)) := by
  have := drop_may l k h
  rw [List.drop_eq_getElem_cons hk] at this
  exact this.2.1
/-- What stands ahead of a hunk stays, when those behind it are done. -/
theorem refApp_keeps {la : List (List UInt8)} {l : List (Hk (List UInt8))} {i : Nat} (hi : i ≤ la.length) (hf : From i l) (hm : May l) (hs : ∀ h ∈ l, Stands la h) : ∃ b, refApp la l = la.take i ++ b := by
  obtain ⟨b, hb⟩ := stands_done la l i hi hf hm hs
  have := done_app (p := la.take i) (by rw [List.length_take]; omega) hb
  rw [List.take_append_drop] at this
  exact ⟨b, this⟩
theorem refApp_len {la : List (List UInt8)} : ∀ (l : List (Hk (List UInt8))), (refApp la l).length ≤ la.length + sumNew l
  | [] => by simp [refApp, sumNew]
  | h :: l => by
    have ih := refApp_len (la := la) l
    rw [refApp, List.length_append, List.length_append, List.length_take, List.length_drop]
    simp only [sumNew, List.map_cons, List.sum_cons] at ih ⊢
    omega

theorem mem_sum : ∀ {l : List (Hk (List UInt8))} {h : Hk (List UInt8)}, h ∈ l → h.new.length ≤ sumNew l
  | g :: l, h, hh => by
    simp only [sumNew, List.map_cons, List.sum_cons]
    rcases List.mem_cons.1 hh with rfl | hh
    · omega
    · have := mem_sum hh
      simp only [sumNew] at this
      omega
/-- What Apply of the reference leaves. -/
def Appl (w : World) (la : List (List UInt8)) (hs : List Hm) (e : Ending) (w' : World) : Prop :=
  ∃ A cap l d, e = .returned (.tuple #[.slice A (List.length (α := List UInt8) l) cap, .bool d]) ∧ (d = standB la hs ∧ (d = true → l = refApp la (plains hs)) ∧ (d = false → l = [])) ∧ Room A l.length cap ∧ Strs w' w'.heap.size A (toBs l) ∧ Below w.heap.size w w'

end Go.Proofs.YtknommnlkdlkdaaGreatDoor
namespace Go.Proofs.YtknommnlkdlkdaaGreatDoor
open Go.RowKit
set_option linter.unusedVariables false

def hcells (hs : List Hm) : List Value := hs.flatMap Hm.cells
theorem hcells_len : ∀ (hs : List Hm), (hcells hs).length = hs.length * 3
  | [] => rfl
  | h :: hs => by
    have := hcells_len hs
    simp only [hcells, List.flatMap_cons, List.length_append, List.length_cons] at *
    rw [this]
    show 3 + _ = _
    omega
theorem hcells_get : ∀ (hs : List Hm) (j : Nat) (hj : j < hs.length), (hcells hs)[j * 3]? = some (.int .i64 hs[j].at_) ∧ (hcells hs)[j * 3 + 1]? = some (.slice hs[j].a1 hs[j].old.length hs[j].c1) ∧ (hcells hs)[j * 3 + 2]? = some (.slice hs[j].a2 hs[j].new.length hs[j].c2)
  | h :: hs, 0, hj => ⟨rfl, rfl, rfl⟩
  | h :: hs, j + 1, hj => by
    have ih := hcells_get hs j (by simpa using hj)
    have e : ∀ r, (hcells (h :: hs))[(j + 1) * 3 + r]? = (hcells hs)[j * 3 + r]? := by
      intro r
      have e1 : hcells (h :: hs) = h.cells ++ hcells hs := rfl
      rw [e1, List.getElem?_append_right (by show 3 ≤ _; omega)]
      congr 1
      show _ - 3 = _
      omega
    have e0 := e 0
    rw [Nat.add_zero, Nat.add_zero] at e0
    rw [e0, e 1, e 2]
    exact ih
/-- A slice of hunks that the call made. -/
def OwnH (w : World) (B : Nat) (v : Value) (hs : List Hm) : Prop := w.ownsRow B 129 3 v hs.length (hcells hs)
theorem OwnH.nil (w : World) (B : Nat) : OwnH w B (.slice none 0 0) [] := w.ownsRow_nil B 129 3
theorem OwnH.hks {w : World} {B : Nat} {v : Value} {hs : List Hm} (h : OwnH w B v hs) (hok : ∀ h ∈ hs, h.Ok w w.heap.size) : ∃ A cap, v = .slice A hs.length cap ∧ Hks w w.heap.size A hs ∧ Room A hs.length cap := by
  have h' := h
  rcases h.2 with ⟨rfl, h0⟩ | ⟨g, cap, cur, rfl, _, hg, hcap, _⟩
  · have e : hs = [] := List.length_eq_zero_iff.1 h0
    subst e
    exact ⟨none, 0, rfl, Hks.nil, fun _ => rfl, Nat.le_refl _⟩
  · refine ⟨_, cap, rfl, ⟨fun hp => ⟨g, 0, rfl, (Array.getElem?_eq_some_iff.1 hg).1, fun j hj => ?_⟩, hok⟩, (fun e => by cases e), hcap⟩
    obtain ⟨c0, c1, c2⟩ := hcells_get hs j hj
    have e : ∀ i, (⟨g, 0, none⟩ : Addr).add i = ⟨g, i, none⟩ := fun i => by unfold Addr.add; split <;> simp_all
    have k0 := h'.cells (g := g) rfl _ _ c0
    have k1 := h'.cells (g := g) rfl _ _ c1
    have k2 := h'.cells (g := g) rfl _ _ c2
    rw [e] at k0 k1 k2
    rw [Nat.zero_add]
    exact ⟨k0, k1, k2⟩
theorem OwnH.ne_strs {w : World} {B B2 : Nat} {v u : Value} {hs : List Hm} {ls : List (List UInt8)} (h : OwnH w B v hs) (g : OwnS w B2 u ls) : ∀ k, u.ownBlock = some k → v.ownBlock ≠ some k := by
  intro k hk hv
  rcases h.2 with ⟨rfl, _⟩ | ⟨g1, c1, cur1, rfl, _, hg1, _⟩
  · simp [Value.ownBlock] at hv
  · rcases g.2 with ⟨rfl, _⟩ | ⟨g2, c2, cur2, rfl, _, hg2, _⟩
    · simp [Value.ownBlock] at hk
    · simp only [Value.ownBlock, Option.some.injEq] at hk hv
      subst hk hv
      rw [hg1] at hg2
      simp only [Option.some.injEq, Obj.cells.injEq] at hg2
      exact absurd hg2.2.1 (by decide)
theorem HunkAt.ne_strs {w : World} {g B : Nat} {h : Hm} {v : Value} {ls : List (List UInt8)} (k : HunkAt w g h) (o : OwnS w B v ls) : v.ownBlock ≠ some g := by
  intro hv
  rcases o.2 with ⟨rfl, _⟩ | ⟨g2, c2, cur2, rfl, _, hg2, _⟩
  · simp [Value.ownBlock] at hv
  · simp only [Value.ownBlock, Option.some.injEq] at hv
    subst hv
    rw [show w.heap[g2]? = _ from k] at hg2
    simp only [Option.some.injEq, Obj.cells.injEq] at hg2
    exact absurd hg2.2.1 (by decide)
theorem info_hunk : (Tryz.prog.info? 129).map (fun i => (i.zero, i.size, i.bytes)) = some (some (.agg #[.int .i64 0, .slice none 0 0, .slice none 0 0]), 3, 56) := by kernel_rfl
theorem wpList_append_hunk {w : World} {ops : Array Oper} {rest : List Oper} {o : Oper} {a : Act} {Q : Exit → Act → World → Prop} (hgd : o.guard = none) (s x : Operand)
    (ho : o.op = .call { callee := .builtin .append, args := #[s, x], argTypes := #[106, 106] })
    (B : Nat) (v : Value) (hs : List Hm) (hv : a.eval s = v) (hown : OwnH w B v hs) (h : Hm) (b : Nat) (hx : a.eval x = .slice (some ⟨b, 0, none⟩) 1 1) (hb : HunkAt w b h) (hB : B ≤ w.heap.size) (hle : hs.length ≤ 100000)
    (H : Nat) (hH : w.heap.size = H)
    (k : ∀ g cap w', OwnH w' B (.slice (some ⟨g, 0, none⟩) (hs.length + 1) cap) (hs ++ [h]) → w.grownBy w' v.ownBlock → (v.ownBlock = some g ∨ g = H) → wpList Tryz.prog ops Q rest (a.put o.dst (.slice (some ⟨g, 0, none⟩) (hs.length + 1) cap)) w') : wpList Tryz.prog ops Q (o :: rest) a w := by
  obtain ⟨i0, hi, hz0, hz1, hz2⟩ := info_parts info_hunk
  refine wpList_append_lies w hgd s x 106 ho B 129 i0 _ 3 56 Tryz.underlying106 hi hz0 hz1 hz2 rfl (by decide) v hs.length (hcells hs) hv hown ⟨b, 0, none⟩ 1 1 h.cells hx rfl ?_ ?_ (by decide) (by unfold maxLen; omega) (by omega) hB H hH ?_
  · exact World.news_of_block hb
  · intro u hu
    simp only [Hm.cells, List.mem_cons, List.not_mem_nil, or_false] at hu
    rcases hu with rfl | rfl | rfl <;> rfl
  · intro g cap w' ho' hg hat _
    refine k g cap w' ?_ hg hat
    unfold OwnH
    rw [List.length_append]
    have e : hcells (hs ++ [h]) = hcells hs ++ h.cells := by simp [hcells]
    rw [e]
    exact ho'
end Go.Proofs.YtknommnlkdlkdaaGreatDoor
