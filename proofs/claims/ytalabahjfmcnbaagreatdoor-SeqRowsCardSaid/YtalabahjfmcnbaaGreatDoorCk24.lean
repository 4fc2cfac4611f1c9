/- Words for memory: steps, and rows of steps. Words for rows of steps that change places. -/
import Derived.Deep.AppendLies
import Derived.Laws.Cover1
import Derived.Sort.OwnSorted
import Derived.Deep.RegionHeld3
import Derived.Deep.DrawnRows
import Derived.Deep.RegionLaw
import Derived.BigQuiet
import Derived.Deep.QuietTactic
import Derived.Handy
import Derived.Test.YtalabahjfmcnbaaGreatDoorShelf
import Derived.Test.YtalabahjfmcnbaaGreatDoorCk09
import Derived.Test.YtalabahjfmcnbaaGreatDoorCk23
namespace Go.Proofs.YtalabahjfmcnbaaGreatDoor
open Go.RowKit
set_option linter.unusedVariables false

section
variable {w w' : World} {B B' : Nat} {A : Option Addr} {ps : List Pm} {x : Pm}
end

section
variable {w w' : World} {g : Nat} {x : Pm}
end

theorem wpList_append_prim {w : World} {ops : Array Oper} {rest : List Oper} {o : Oper} {a : Act} {Q : Exit → Act → World → Prop} (hgd : o.guard = none) (s x : Operand)
    (ho : o.op = .call { callee := .builtin .append, args := #[s, x], argTypes := #[22, 22] })
    (B : Nat) (v : Value) (hs : List Pm) (hv : a.eval s = v) (hown : OwnP w B v hs) (h : Pm) (b : Nat) (hx : a.eval x = .slice (some ⟨b, 0, none⟩) 1 1) (hb : PrimAt w b h) (hB : B ≤ w.heap.size) (hle : hs.length ≤ 100000)
    (H : Nat) (hH : w.heap.size = H)
    (k : ∀ g cap w', OwnP w' B (.slice (some ⟨g, 0, none⟩) (hs.length + 1) cap) (hs ++ [h]) → w.grownBy w' v.ownBlock → (v.ownBlock = some g ∨ g = H) → wpList Tryz.prog ops Q rest (a.put o.dst (.slice (some ⟨g, 0, none⟩) (hs.length + 1) cap)) w') : wpList Tryz.prog ops Q (o :: rest) a w := by
  obtain ⟨i0, hi, hz0, hz1, hz2⟩ := info_parts info_prim
  refine wpList_append_lies w hgd s x 22 ho B 33 i0 _ 6 96 Tryz.underlying22 hi hz0 hz1 hz2 rfl (by decide) v hs.length (pcells hs) hv hown ⟨b, 0, none⟩ 1 1 h.cells hx rfl ?_ ?_ (by decide) (by unfold maxLen; omega) (by omega) hB H hH ?_
  · exact World.news_of_block hb
  · intro u hu
    simp only [Pm.cells, List.mem_cons, List.not_mem_nil, or_false] at hu
    rcases hu with rfl | rfl | rfl | rfl | rfl | rfl <;> rfl
  · intro g cap w' ho' hg hat _
    refine k g cap w' ?_ hg hat
    unfold OwnP
    rw [List.length_append]
    have e : pcells (hs ++ [h]) = pcells hs ++ h.cells := by simp [pcells]
    rw [e]
    exact ho'
end Go.Proofs.YtalabahjfmcnbaaGreatDoor
namespace Go.Proofs.YtalabahjfmcnbaaGreatDoor
open Go.RowKit
set_option linter.unusedVariables false

theorem ret_past {fn : Func} {a p u : Tmp} (h : fn.results = #[.tmp a, .cell p 33, .tmp u]) (tmps : Array Value) (w : World) (g : Nat) (x : Pm) (va v : Value) (ha : tmps.getD a undef = va) (hp : tmps.getD p undef = .pointer (some ⟨g, 0, none⟩)) (hv : tmps.getD u undef = v) (k : PrimAt w g x) :
    (results fn tmps).run Tryz.prog w = .ok (.tuple #[va, .agg x.cells.toArray, v]) w := by
  have e : (results fn tmps).run Tryz.prog w = ((asAddr (tmps.getD p undef)).run Tryz.prog w).andThen fun b w1 => ((loadVar 33 b).run Tryz.prog w1).andThen fun u2 w2 => .ok (.tuple #[tmps.getD a undef, u2, tmps.getD u undef]) w2 := by
    simp only [results, h]
    simp [Sem.run_bind, Result.andThen]
  rw [e, ha, hp, hv]
  simp [asAddr, load_primv k, Result.andThen]
end Go.Proofs.YtalabahjfmcnbaaGreatDoor
