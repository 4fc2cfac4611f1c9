
/- Package diff's hunk: a hunk that shares no memory with the lists that it is of. -/
import Derived.Test.YtmffmhadimeplaaDSmall
import Derived.Test.YtmffmhadimeplaaWalking
import Derived.Laws.Rows
import Derived.Laws.ResultCell
namespace Go.Proofs.Ytmffmhadimeplaa
open Go.RowKit
set_option linter.unusedVariables false

/-- A hunk comes back, its lines in rows of its own. -/
def HunkMade (w : World) (n : Int) (la lc : List (List UInt8)) (e : Ending) (w' : World) : Prop :=
  ∃ h : Hm, e = .returned (.agg h.cells.toArray) ∧ (h.at_ = n ∧ h.old = la ∧ h.new = lc) ∧ h.Ok w' w'.heap.size ∧ (Typed w' h.a1 h.old ∧ Typed w' h.a2 h.new) ∧ Below w.heap.size w w'
theorem size_hunk : (Try.prog.info? 47).map (·.size) = some 3 := by kernel_rfl
theorem load_hunk {w : World} {g : Nat} {h : Hm} (k : HunkAt w g h) : (loadVar 47 ⟨g, 0, none⟩).run Try.prog w = .ok (.agg h.cells.toArray) w :=
  run_loadVar_row w g 47 47 h.cells.toArray (0, 0) _ k Try.underlying47 rfl size_hunk
theorem ret_hunk {fn : Func} {p : Tmp} (h : fn.results = #[.cell p 47]) (tmps : Array Value) (w : World) (g : Nat) (x : Hm) (hp : tmps.getD p undef = .pointer (some ⟨g, 0, none⟩)) (k : HunkAt w g x) :
    (results fn tmps).run Try.prog w = .ok (.agg x.cells.toArray) w :=
  results_cell_row h tmps w g 47 _ (0, 0) _ hp k Try.underlying47 rfl size_hunk
theorem ret_hunk2 {fn : Func} {p u : Tmp} (h : fn.results = #[.cell p 47, .tmp u]) (tmps : Array Value) (w : World) (g : Nat) (x : Hm) (v : Value) (hp : tmps.getD p undef = .pointer (some ⟨g, 0, none⟩)) (hv : tmps.getD u undef = v) (k : HunkAt w g x) :
    (results fn tmps).run Try.prog w = .ok (.tuple #[.agg x.cells.toArray, v]) w := by
  rw [results_cell_tmp h, hp, hv]
  simp [asAddr, load_hunk k, Result.andThen]
theorem Strs.row {w : World} {A : Option Addr} {cap : Nat} {ls : List (List UInt8)} (h : Strs w w.heap.size A (toBs ls)) : Hid (Strs w w.heap.size A (toBs ls)) := h

set_option maxRecDepth 100000 in
theorem hunk_any (n : Int) (A A2 : Option Addr) (la lc : List (List UInt8)) (cap cap2 : Nat) (w : World) (hs : Strs w w.heap.size A (toBs la)) (ht : Strs w w.heap.size A2 (toBs lc)) (hr : Room A la.length cap) (hr2 : Room A2 lc.length cap2)
    (hn : la.length ≤ 1000000) (hn2 : lc.length ≤ 1000000) (h0 : -9223372036854775808 ≤ n) (h1 : n ≤ 9223372036854775807) :
    Calls Try.prog 25 #[.int .i64 n, .slice A la.length cap, .slice A2 lc.length cap2] w (HunkMade w n la lc) := by
  have HS := Lib.hid hs
  have HT := Lib.hid ht
  have HR := Lib.hid hr
  have HR2 := Lib.hid hr2
  have L0 := Lib.hid h0
  have L1 := Lib.hid h1
  clear hs ht hr hr2 h0 h1
  have hb0 : Below w.heap.size w (w.alloc (.cells #[.int .i64 0, .slice none 0 0, .slice none 0 0] 47)) := (Below.refl _ _).alloc (Nat.le_refl _) _
  have C1 := Lib.hid (copied_any A la cap _ (HS.out.on hb0) HR.out hn)
  have HA0 := Lib.hid (HunkAt.new_ w ⟨0, none, 0, [], none, 0, []⟩)
  have HB0 := Lib.hid hb0
  clear hb0
  go_enter Try.func25, Try.ntmps25
  go_wp2_with fail
  refine C1.out.mono ?_
  rintro e w1 ⟨v1, rfl, ho1, hb1⟩
  have hb1' := HB0.out.trans (hb1.mono HB0.out.size)
  have HA1 := Lib.hid (HA0.out.on hb1)
  have C2 := Lib.hid (copied_any A2 lc cap2 w1 (HT.out.on hb1') HR2.out hn2)
  have HO1 := Lib.hid ho1
  have HB1 := Lib.hid hb1'
  clear hb1 hb1' ho1 C1 HA0 HB0
  go_wp2_with fail
  refine C2.out.mono ?_
  rintro e w2 ⟨v2, rfl, ho2, hb2⟩
  have hA2 := HA1.out.on hb2
  have ho1 := HO1.out.kept hb2
  obtain ⟨B1, c1, rfl, s1, _, _⟩ := ho1.strs
  obtain ⟨B2, c2, rfl, s2, _, _⟩ := ho2.strs
  have hr1 := ho1.at_.2.1
  have hr2 := ho2.at_.2.1
  have t1 := ho1.typed
  have t2 := ho2.typed
  have f0 := hA2.c0
  have f1 := hA2.c1
  have f2 := hA2.c2
  have g0 := hA2.f 0
  have g1 := hA2.f 1
  have g2 := hA2.f 2
  have HBB := Lib.hid (HB1.out.trans (hb2.mono HB1.out.size))
  have hg : Hid (w2.grownBy (((w2.setCell ⟨w.heap.size, 0, none⟩ (.int .i64 n)).setCell ⟨w.heap.size, 1, none⟩ (.slice B1 la.length c1)).setCell ⟨w.heap.size, 2, none⟩ (.slice B2 lc.length c2)) (some w.heap.size)) :=
    grown_trans (grown_trans (grown_set w2 w.heap.size 0 _) (grown_set _ w.heap.size 1 _)) (grown_set _ w.heap.size 2 _)
  have S1 := Lib.hid (s1.grown hg.out fun g e => .inr ⟨_, by cases e; exact hA2⟩)
  have S2 := Lib.hid (s2.grown hg.out fun g e => .inr ⟨_, by cases e; exact hA2⟩)
  have T1 := Lib.hid (t1.grown hg.out fun g e => .inl ⟨_, by cases e; exact hA2⟩)
  have T2 := Lib.hid (t2.grown hg.out fun g e => .inl ⟨_, by cases e; exact hA2⟩)
  have A3 := ((hA2.set0 n).set1 B1 la c1 _ rfl).set2 B2 lc c2 _ rfl
  have d0 := A3.c0
  have d1 := A3.c1
  have d2 := A3.c2
  have HR1 := Lib.hid hr1
  have HR2 := Lib.hid hr2
  have A3h := Lib.hid A3
  have HE := Lib.hid (HBB.out.grown hg.out HBB.out.size fun k hk => by simp only [Option.some.injEq] at hk; omega)
  clear hr1 hr2 t1 t2 s1 s2 ho1 ho2 hA2 A3 HA1 C2 HO1 hb2 hg
  have LA1 := hn
  have LA2 := hn2
  go_wp2
  (try simp only [Exit.inBlock, Exit.then])
  refine bodyPost_ret (ret_hunk rfl _ _ _ _ rfl A3h.out) rfl ?_
  exact ⟨_, rfl, ⟨rfl, rfl, rfl⟩, ⟨S1.out.more (by simp), S2.out.more (by simp), HR1.out, HR2.out, L0.out, L1.out, by show la.length ≤ _; omega, by show lc.length ≤ _; omega⟩, ⟨T1.out, T2.out⟩, HE.out⟩
end Go.Proofs.Ytmffmhadimeplaa
