/- Package deps: the function that comer makes: who may come now. The library's BinarySearch and Insert, of a row of no number that is the rest of a row of one. Package op: Get. Package patch: opsOf: the operations that bytes are. What a reader reads was laid so, in one way alone. A patch's bytes read: its name, its lists; what comes of them is a patch's bytes, and of a patch's bytes comes the patch. Package patch: Get. -/
import Derived.Test.YtifkpelcdihdoaaGreatDoorProg
import Derived.WalkKit
import Derived.WalkSpells
import Derived.Handy
import Derived.Lib.Hide
import Derived.Shelf.Strings.BuilderK
import Derived.BigQuiet
import Derived.Deep.QuietTactic
import Derived.Lib.AtoiAllCases
import Derived.Lib.ItoaMem
import Derived.Test.YtifkpelcdihdoaaGreatDoorShelf
import Derived.Deep.RegionHeld3
import Derived.Deep.CutRange
import Derived.Lib.AppendIntMem
import Derived.BigRegion
import Derived.Deep.RegionWith
import Derived.Lib.QuietBelow
import Derived.Deep.MidRow
import Derived.Deep.Onto
import Derived.StillTailTactics
import Derived.Deep.RegionLaw
import Derived.Test.YtifkpelcdihdoaaGreatDoorCk14
import Derived.Test.YtifkpelcdihdoaaGreatDoorCk30
namespace Go.Proofs.YtifkpelcdihdoaaGreatDoor
open Go.RowKit
set_option linter.unusedVariables false
set_option pp.maxSteps 700

set_option maxHeartbeats 4000000 in
set_option maxRecDepth 100000 in
/-- The first has come: the second may. -/
theorem dnow_first (w0 w : World) (g cap : Nat) (x y : Ptm) {gl gm gu gw bl bu bw u0 cu : Nat} (hk : patR.Blk w g cap [y, x]) (hn : y.name = toB [97]) (hc : Com0 w0 w gl gm gu gw bl bu bw (.slice (some ⟨g, 0, none⟩) 2 cap) (onesF [[97], [98]]) (fun t => if t = toB [97] then some (.slice (some ⟨u0, 0, none⟩) 1 cu) else none) 2 1 0 1) (hu : intR.Blk w u0 cu [1]) :
    Calls Tryz.prog 60 #[.int .i64 0, .pointer (some ⟨gl, 0, none⟩), .pointer (some ⟨gm, 0, none⟩), .pointer (some ⟨gu, 0, none⟩), .pointer (some ⟨gw, 0, none⟩)] w fun e w' => ∃ k0 ck fl, e = .returned (.slice (some ⟨k0, 0, none⟩) 1 ck) ∧ intR.Blk w' k0 ck [1] ∧ w.heap.size ≤ k0 ∧
      Com0 w0 w' gl gm gu gw bl bu bw (.slice (some ⟨g, 0, none⟩) 2 cap) fl (fun t => if t = toB [97] then some (.slice (some ⟨u0, 0, none⟩) 1 cu) else none) 3 1 0 0 ∧ fl (toB [98]) = some (.int .i64 1) ∧ Sv w w' [bl, bw] := by
  have HC := Lib.hid hc
  have HU := Lib.hid hu
  have hsz9 : (toB [97]).size ≤ 9223372036854775807 := by decide
  have hone : onesF [[97], [98]] (toB [97]) = some (.int .i64 1) := by unfold onesF; rw [of_toB]; rfl
  have hoth : onesF [[97], [98]] (toB [98]) = some (.int .i64 1) := by unfold onesF; rw [of_toB]; rfl
  have hne : toB [98] ≠ toB [97] := by decide
  have cy : w.cell? ⟨g, 0, none⟩ = some (.string (toB [97])) := by
    have h := hk.cell (j := 0) (by simp) (r := 0) (u := .string y.name) rfl
    rw [hn] at h
    exact h
  have IA : ∀ W : World, (Instr.indexAt 22 (.slice (some ⟨g, 0, none⟩) 2 cap) (.int .i64 0)).run Tryz.prog W = .ok (.pointer (some ⟨g, 0, none⟩)) W := fun W => pat_indexAt (c := cap) (n := 2) (k := 0) (A := some ⟨g, 0, none⟩) rfl (by decide) W
  have v1 := hc.bl_.cell
  have v2 := hc.bm_.cell
  have hget := StrMap.get 88 3 Tryz.underlying88 (zero_int w) hc.hl hsz9 _ hone
  simp only [Option.getD_some] at hget
  obtain ⟨w3, hput, hm3, hg3⟩ := StrMap.put 88 3 Tryz.underlying88 hc.hl hsz9 (by decide) (.int .i64 0)
  have hc3 := hc.putl hm3 hg3
  have HC3 := Lib.hid hc3
  have HU3 := Lib.hid (hu.put_map hc.hl hg3)
  have hsv3 : Sv w w3 [bl, bw] := Sv.one hg3 (by simp)
  have HSV3 := Lib.hid hsv3
  have hget3 := StrMap.get 88 3 Tryz.underlying88 (zero_int w3) hc3.hl hsz9 (some (.int .i64 0)) (if_pos rfl)
  have hget4 := StrMap.get 89 59 Tryz.underlying89 (zero_ints w3) hc3.hu hsz9 (some (.slice (some ⟨u0, 0, none⟩) 1 cu)) (if_pos rfl)
  simp only [Option.getD_some] at hget3 hget4
  have v3 := hc3.bm_.cell
  have v4 := hc3.bu_.cell
  have v5 := hc3.bv_.cell
  have cu0 : w3.cell? ⟨u0, 0, none⟩ = some (.int .i64 1) := HU3.out.cell (j := 0) (by simp) (r := 0) rfl
  have vc : w3.cell? ⟨bw, 1, none⟩ = some (.int .i64 1) := by simp [World.cell?, hc3.vc]
  have vf : w3.frozen? ⟨bw, 1, none⟩ = false := by simp [World.frozen?, hc3.vc]
  have hc5 := hc3.setv1 0
  have HC5 := Lib.hid hc5
  have v5b := hc5.bv_.cell
  have vcb : (w3.setCell ⟨bw, 1, none⟩ (.int .i64 0)).cell? ⟨bw, 1, none⟩ = some (.int .i64 0) := by simp [World.cell?, hc5.vc]
  have HSV5 : Hid (Sv w (w3.setCell ⟨bw, 1, none⟩ (.int .i64 0)) [bl, bw]) := hsv3.trans (Sv.one (grown_cell w3 bw 1 (.int .i64 0)) (by simp))
  have HFL : Hid ((fun t => if t = toB [97] then some (Value.int .i64 0) else onesF [[97], [98]] t) (toB [98]) = some (.int .i64 1)) := by
    show (if toB [98] = toB [97] then some (Value.int .i64 0) else onesF [[97], [98]] (toB [98])) = _
    rw [if_neg hne]
    exact hoth
  generalize (fun t => if t = toB [97] then some (Value.int .i64 0) else onesF [[97], [98]] t) = fl at *
  clear hc hu hk hone hoth hne hm3 hg3 hc3 hc5 hsv3 HC
  -- @P1
  go_enter Tryz.func60, Tryz.ntmps60
  go_wp2_with fail
  refine wp_loop_rounds 2 ?_
  rw [rounds_succ]
  go_upto_region 10 with (fail)
  generalize (w3.setCell ⟨bw, 1, none⟩ (.int .i64 0)) = w5 at *
  have hba : Below w5.heap.size w5 (w5.alloc (.cells #[.int .i64 1] 3)) := below_box _
  have HRW : Hid (intR.Row (w5.alloc (.cells #[.int .i64 1] 3)) (w5.alloc (.cells #[.int .i64 1] 3)).heap.size (some ⟨w5.heap.size, 0, none⟩) [1]) := (Rk.At.new_ (R := intR) w5 (1 : Int)).row
  have HC6 := Lib.hid (HC5.out.on hba)
  have HSV6 := Lib.hid (HSV5.out.trans (Sv.of hba [bl, bw]))
  clear hba HSV5 HSV3 HC3 HC5 HU3
  go_wp2_with (at_builtin; refine intR.wpList_append_at rfl _ _ rfl w.heap.size (.slice none 0 0) [] [1] rfl (Rk.Own.nil _ _) (some ⟨w5.heap.size, 0, none⟩) 1 1 rfl rfl (fun e => by cases e) HRW.out HSV6.out.size (by decide) 1 rfl ?_)
  rintro A' c' w7 ho hg hbl
  rcases Rk.own_cases ho with ⟨e, h0⟩ | ⟨k0, cap0, e, hBk, hblk⟩
  · cases h0
  simp only [Value.slice.injEq] at e
  obtain ⟨rfl, -, rfl⟩ := e
  have HC7 := Lib.hid (HC6.out.on (below_none hg))
  have HSV7 := Lib.hid (HSV6.out.trans (Sv.of (below_none hg) [bl, bw]))
  have HK7 := Lib.hid hblk
  have HGK := Lib.hid hBk
  clear ho hg hbl hblk HRW HC6 HSV6 hBk
  go_wp2_with fail
  rw [rounds_succ]
  go_wp2
  go_ret
  exact ⟨k0, _, _, rfl, HK7.out, HGK.out, HC7.out, HFL.out, HSV7.out⟩
set_option maxHeartbeats 4000000 in
set_option maxRecDepth 100000 in
/-- The second has come: nobody may. -/
theorem dnow_last (w0 w : World) (g cap : Nat) (x y : Ptm) {gl gm gu gw bl bu bw u0 cu : Nat} {fl : ByteArray → Option Value} (hk : patR.Blk w g cap [y, x]) (hn : x.name = toB [98]) (hc : Com0 w0 w gl gm gu gw bl bu bw (.slice (some ⟨g, 0, none⟩) 2 cap) fl (fun t => if t = toB [97] then some (.slice (some ⟨u0, 0, none⟩) 1 cu) else none) 3 1 0 0) (hf : fl (toB [98]) = some (.int .i64 1)) :
    Calls Tryz.prog 60 #[.int .i64 1, .pointer (some ⟨gl, 0, none⟩), .pointer (some ⟨gm, 0, none⟩), .pointer (some ⟨gu, 0, none⟩), .pointer (some ⟨gw, 0, none⟩)] w fun e w' => e = .returned (.slice none 0 0) ∧ Sv w w' [bl, bw] := by
  have hsz9 : (toB [98]).size ≤ 9223372036854775807 := by decide
  have hne : toB [98] ≠ toB [97] := by decide
  have cx : w.cell? ⟨g, 3, none⟩ = some (.string (toB [98])) := by
    have h := hk.cell (j := 1) (by simp) (r := 0) (u := .string x.name) rfl
    rw [hn] at h
    exact h
  have IA : ∀ W : World, (Instr.indexAt 22 (.slice (some ⟨g, 0, none⟩) 2 cap) (.int .i64 1)).run Tryz.prog W = .ok (.pointer (some ⟨g, 3, none⟩)) W := fun W => pat_indexAt (c := cap) (n := 2) (k := 1) (A := some ⟨g, 0, none⟩) rfl (by decide) W
  have v1 := hc.bl_.cell
  have v2 := hc.bm_.cell
  have hget := StrMap.get 88 3 Tryz.underlying88 (zero_int w) hc.hl hsz9 _ hf
  simp only [Option.getD_some] at hget
  obtain ⟨w3, hput, hm3, hg3⟩ := StrMap.put 88 3 Tryz.underlying88 hc.hl hsz9 (by decide) (.int .i64 0)
  have hc3 := hc.putl hm3 hg3
  have HSV3 : Hid (Sv w w3 [bl, bw]) := Sv.one hg3 (by simp)
  have hget3 := StrMap.get 88 3 Tryz.underlying88 (zero_int w3) hc3.hl hsz9 (some (.int .i64 0)) (if_pos rfl)
  have hget4 := StrMap.get 89 59 Tryz.underlying89 (zero_ints w3) hc3.hu hsz9 none (if_neg hne)
  simp only [Option.getD_some, Option.getD_none] at hget3 hget4
  have v3 := hc3.bm_.cell
  have v4 := hc3.bu_.cell
  clear hc hk hne hm3 hg3 hc3 hf
  go_enter Tryz.func60, Tryz.ntmps60
  go_wp2_with fail
  refine wp_loop_rounds 1 ?_
  rw [rounds_succ]
  go_wp2
  go_ret
  exact ⟨rfl, HSV3.out⟩
end Go.Proofs.YtifkpelcdihdoaaGreatDoor
namespace Go.Proofs.YtifkpelcdihdoaaGreatDoor
open Go.RowKit
set_option linter.unusedVariables false

theorem iappend_rest (f0 o capF cs v0 c1 : Nat) (n : Int) (ty : TypeId) (w : World) (hf : intR.Blk w f0 capF [0]) (hcs : cs + 1 = capF) (ho : 1 ≤ cs → o = 1) (hv : w.cell? ⟨v0, 0, none⟩ = some (.int .i64 n)) :
    ∃ b' o' c' w', (Builtin.append_ #[59, 59] ty #[.slice (some ⟨f0, o, none⟩) 0 cs, .slice (some ⟨v0, 0, none⟩) 1 c1]).run Tryz.prog w = .ok (.slice (some ⟨b', o', none⟩) 1 c') w' ∧ w'.cell? ⟨b', o', none⟩ = some (.int .i64 n) ∧ w.grownBy w' (some f0) ∧ 1 ≤ c' := by
  obtain ⟨i0, hi, hz0, hz1, hz2⟩ := intR.info_of
  have hz1' : i0.size = 1 := hz1
  have hz2' : i0.bytes = 8 := hz2
  have hnews : ∀ j u, [Value.int .i64 n][j]? = some u → w.cell? ((⟨v0, 0, none⟩ : Addr).add j) = some u := fun j u hu => by
    cases j with
    | zero =>
      have e : (⟨v0, 0, none⟩ : Addr).add 0 = ⟨v0, 0, none⟩ := rec_add v0 0 0
      simp only [List.getElem?_cons_zero, Option.some.injEq] at hu
      rw [e, hv, hu]
    | succ j => simp at hu
  by_cases hr : 1 ≤ cs
  · obtain rfl := ho hr
    have hsome : (w.cell? ⟨f0, 1, none⟩).isSome = true := hf.some_ (i := 1) (by show 1 < capF * 1; omega)
    have hfz : w.frozen? ⟨f0, 1, none⟩ = false := hf.fz 1
    have h := run_append_room_cells (P := Tryz.prog) (w := w) 59 ty 3 i0 intR.und hi f0 1 0 cs ⟨v0, 0, none⟩ 1 c1 [.int .i64 n] (by rw [hz1']; rfl) hnews (by simp [Value.oneCell']) (by omega)
      (fun j hj => by
        have : j = 0 := by simpa using hj
        subst this
        rw [hz1']
        exact hsome) (fun j hj => by
        have : j = 0 := by simpa using hj
        subst this
        rw [hz1']
        exact hfz)
    rw [hz1'] at h
    refine ⟨f0, 1, cs, _, h, ?_, Rk.setCells_grown w f0 _ _, hr⟩
    exact World.cell?_setCells_in f0 [.int .i64 n] 1 w (fun j hj => by
      have : j = 0 := by simpa using hj
      subst this
      exact hsome) 0 (by simp)
  · obtain rfl : cs = 0 := by omega
    have h := run_append_grow (P := Tryz.prog) (w := w) 59 ty 3 i0 (.int .i64 0) intR.und hi hz0 ⟨f0, o, none⟩ 0 0 [] (by simp) (fun j v hj => by simp at hj) ⟨v0, 0, none⟩ 1 c1 [.int .i64 n] (by rw [hz1']; rfl) hnews (by decide) (by decide) (by rw [hz2']; decide)
    refine ⟨w.heap.size, 0, _, _, h, ?_, ?_, grownCap_ge _ _ _ _⟩
    · show (w.drew.alloc _).cell? ⟨w.drew.heap.size, 0, none⟩ = _
      rw [World.cell?_alloc_new]
      simp only [List.append_toArray, List.nil_append]
      rw [Array.getElem?_append_left (by simp)]
      rfl
    · exact ⟨rfl, rfl, rfl, by simp, fun k hk _ => by
        have : k < w.drew.heap.size := hk
        exact ((Below.refl _ _).alloc (Nat.le_refl _) _ : Below w.drew.heap.size w.drew _).block k this⟩
theorem wpList_append_run {w : World} {ops : Array Oper} {rest : List Oper} {o : Oper} {a : Act} {Q : Exit → Act → World → Prop} (hgd : o.guard = none) (s x : Operand) (t : TypeId)
    (ho : o.op = .call { callee := .builtin .append, args := #[s, x], argTypes := #[t, t] }) {vs vx v' : Value} {w' : World} (hs : a.eval s = vs) (hx : a.eval x = vx) (hr : (Builtin.append_ #[t, t] o.type #[vs, vx]).run Tryz.prog w = .ok v' w')
    (h : wpList Tryz.prog ops Q rest (a.put o.dst v') w') : wpList Tryz.prog ops Q (o :: rest) a w := by
  refine wpList_plain hgd fun K hK => ?_
  unfold Oper.wp
  simp [execOp, ho, resolve, invoke, builtin, hs, hx, hr, Result.andThen]
  exact hK _ _ h
set_option maxHeartbeats 2000000 in
set_option maxRecDepth 100000 in
theorem ibs_empty (A : Option Addr) (c : Nat) (k : Int) (w : World) :
    Calls Tryz.prog 39 #[.slice A 0 c, .int .i64 k] w fun e w' => e = .returned (.tuple #[.int .i64 0, .bool false]) ∧ w' = w := by
  go_enter Tryz.func39, Tryz.ntmps39
  go_wp2_with fail
  refine wp_loop_rounds 1 ?_
  rw [rounds_succ]
  go_wp2_with fail
  go_ret2
  exact ⟨rfl, rfl⟩
set_option maxHeartbeats 2000000 in
set_option maxRecDepth 100000 in
theorem iinsert_rest (f0 o capF cs v0 c1 : Nat) (n : Int) (w : World) (hf : intR.Blk w f0 capF [0]) (hcs : cs + 1 = capF) (ho : 1 ≤ cs → o = 1) (hv : w.cell? ⟨v0, 0, none⟩ = some (.int .i64 n)) :
    Calls Tryz.prog 40 #[.slice (some ⟨f0, o, none⟩) 0 cs, .int .i64 0, .slice (some ⟨v0, 0, none⟩) 1 c1] w fun e w' => ∃ b' o' c', e = .returned (.slice (some ⟨b', o', none⟩) 1 c') ∧ w'.cell? ⟨b', o', none⟩ = some (.int .i64 n) ∧ w.grownBy w' (some f0) ∧ 1 ≤ c' := by
  obtain ⟨b', o', c', w', hr, hc, hg, hge⟩ := iappend_rest f0 o capF cs v0 c1 n 59 w hf hcs ho hv
  have HC := Lib.hid hc
  have HG := Lib.hid hg
  have HR := Lib.hid hr
  have HGE := Lib.hid hge
  clear hf hcs hv hr hc hg hge ho
  go_enter Tryz.func40, Tryz.ntmps40
  go_wp2_with (at_builtin; refine wpList_append_run rfl _ _ _ rfl rfl rfl HR.out ?_)
  go_ret
  exact ⟨b', o', c', rfl, HC.out, HG.out, HGE.out⟩
/-- What is behind the first of a row of one. -/
theorem irest (f0 o cf : Nat) (h : 1 ≤ cf) : ∃ o', (o = 0 → 1 ≤ cf - 1 → o' = 1) ∧ ∀ W : World, (Instr.slice 59 (.slice (some ⟨f0, o, none⟩) 1 cf) (some (.int .i64 1)) none none).run Tryz.prog W = .ok (.slice (some ⟨f0, o', none⟩) 0 (cf - 1)) W := by
  have hr := fun W : World => intR.run_slice (some ⟨f0, o, none⟩) 1 cf 1 1 (some (.int .i64 1)) none W (Nat.le_refl _) (Nat.le_refl _) h (.inl rfl) (.inr ⟨rfl, rfl⟩)
  by_cases e : cf = 1
  · refine ⟨o, fun _ h2 => by omega, fun W => ?_⟩
    have h3 := hr W
    rw [if_pos e] at h3
    exact h3
  · refine ⟨o + 1, fun h1 _ => by omega, fun W => ?_⟩
    have h3 := hr W
    rw [if_neg e] at h3
    have e2 : (some (⟨f0, o, none⟩ : Addr)).map (·.add (1 * intR.k)) = some ⟨f0, o + 1, none⟩ := congrArg some (rec_add f0 o 1)
    rw [e2] at h3
    exact h3
end Go.Proofs.YtifkpelcdihdoaaGreatDoor
namespace Go.Proofs.YtifkpelcdihdoaaGreatDoor
open Go.RowKit
set_option linter.unusedVariables false

theorem owns_lower {w : World} {B B' : Nat} {v : Value} {ls : List (List UInt8)} (h : OwnS w B v ls) (hB : B' ≤ B) : OwnS w B' v ls := by
  refine ⟨h.1, h.2.imp id ?_⟩
  rintro ⟨g, cap, cur, e, hb, r⟩
  exact ⟨g, cap, cur, e, by omega, r⟩
theorem Om.Sep.lower {z : Om} {w : World} {B B' : Nat} (h : z.Sep w B) (hB : B' ≤ B) : z.Sep w B' := ⟨Rk.Own.lower h.dels hB, owns_lower h.lines hB⟩
end Go.Proofs.YtifkpelcdihdoaaGreatDoor
namespace Go.Proofs.YtifkpelcdihdoaaGreatDoor
open Go.RowKit
set_option linter.unusedVariables false

/-- An operation's rows lie in other blocks. -/
def Om.Far (z : Om) (g : Option Nat) : Prop := (∀ q, (Value.slice z.a1 z.dels.length z.c1).ownBlock = some q → g ≠ some q) ∧ ∀ q, (Value.slice z.a2 z.lines.length z.c2).ownBlock = some q → g ≠ some q
theorem Om.Sep.keep {z : Om} {w w' : World} {B : Nat} {g : Option Nat} (h : z.Sep w B) (hg : w.grownBy w' g) (hf : z.Far g) : z.Sep w' B := ⟨Rk.Own.grown h.dels hg hf.1, owns_grown h.lines hg hf.2⟩
/-- Operations in a row of the call's own, their rows too. -/
structure OpsOwn (w : World) (B : Nat) (v : Value) (zs : List Om) : Prop where
  row : opR.Own w B v zs
  each : ∀ z ∈ zs, z.Sep w B ∧ z.Far v.ownBlock
theorem OpsOwn.on {w w' : World} {B : Nat} {v : Value} {zs : List Om} (h : OpsOwn w B v zs) (hb : Below w.heap.size w w') : OpsOwn w' B v zs := ⟨Rk.Own.kept h.row hb, fun z hz => ⟨(h.each z hz).1.on hb, (h.each z hz).2⟩⟩
theorem OpsOwn.ops {w : World} {B n cap : Nat} {A : Option Addr} {zs : List Om} (h : OpsOwn w B (.slice A n cap) zs) : Ops w w.heap.size A zs := ⟨h.row.parts.2.1, fun z hz => (h.each z hz).1.ok⟩
end Go.Proofs.YtifkpelcdihdoaaGreatDoor
namespace Go.Proofs.YtifkpelcdihdoaaGreatDoor
set_option linter.unusedVariables false

theorem valR_lt : ∀ (l : List UInt8) (n v : Nat), valR l n = some v → n < 18446744073709551616 → v < 18446744073709551616
  | [], n, v, h, hn => by simp [valR] at h; omega
  | b :: l, n, v, h, hn => by
    unfold valR at h
    split at h
    · exact valR_lt l _ v h (by have : b.toNat % 128 < 128 := Nat.mod_lt _ (by omega); omega)
    · cases h
theorem numEnd_cons {b c : UInt8} {m : List UInt8} (h : numEnd (b :: c :: m) = some (b :: c :: m).length) : 128 ≤ b.toNat ∧ numEnd (c :: m) = some (c :: m).length := by
  unfold numEnd at h
  split at h
  · simp at h
  · rw [Option.map_eq_some_iff] at h
    obtain ⟨e, he, h2⟩ := h
    refine ⟨by omega, ?_⟩
    rw [he]
    simp at h2 ⊢
    omega
theorem valR_cons {b : UInt8} {m : List UInt8} {n : Nat} (h : valR (b :: m).reverse 0 = some n) : ∃ v, valR m.reverse 0 = some v ∧ n = v * 128 + b.toNat % 128 := by
  rw [List.reverse_cons, valR_snoc, Option.bind_eq_some_iff] at h
  obtain ⟨v, hv, h2⟩ := h
  refine ⟨v, hv, ?_⟩
  unfold valR at h2
  split at h2
  · simp [valR] at h2; omega
  · cases h2
theorem u8_of (b : UInt8) (k : Nat) (h : b.toNat = k) : UInt8.ofNat k = b := by subst h; simp
theorem numF_back : ∀ (m : List UInt8) (n f : Nat), m ≠ [] → numEnd m = some m.length → (1 < m.length → m.getLast? ≠ some 0) → valR m.reverse 0 = some n → m.length ≤ f + 1 →
    numF f n = m ∧ (m.getLast? ≠ some 0 → 128 ^ (m.length - 1) ≤ n)
  | [], _, _, h, _, _, _, _ => absurd rfl h
  | [b], n, f, _, he, _, hv, hf => by
    have hb : b.toNat < 128 := by
      unfold numEnd at he
      split at he
      · assumption
      · simp [numEnd] at he
    have hn : n = b.toNat := by simp [valR] at hv; omega
    subst hn
    refine ⟨by rw [numF_lt f _ hb, u8_of b _ rfl], fun h => ?_⟩
    simp only [List.length_singleton, Nat.sub_self, Nat.pow_zero]
    have : b.toNat ≠ 0 := fun e => h (by have : b = 0 := UInt8.toNat_inj.1 (by simpa using e); rw [this]; rfl)
    omega
  | b :: c :: m, n, f, _, he, hl, hv, hf => by
    obtain ⟨hb, he2⟩ := numEnd_cons he
    obtain ⟨v, hv2, hn⟩ := valR_cons hv
    have hlast : (c :: m).getLast? ≠ some 0 := by
      have := hl (by simp)
      rwa [List.getLast?_cons_cons] at this
    obtain ⟨g, rfl⟩ : ∃ g, f = g + 1 := ⟨f - 1, by simp at hf; omega⟩
    obtain ⟨h1, h2⟩ := numF_back (c :: m) v g (by simp) he2 (fun _ => hlast) hv2 (by simp at hf ⊢; omega)
    have hp := h2 hlast
    have hpos : 1 ≤ 128 ^ ((c :: m).length - 1) := Nat.one_le_pow _ _ (by omega)
    have hmod : b.toNat % 128 < 128 := Nat.mod_lt _ (by omega)
    have hb2 : b.toNat < 256 := UInt8.toNat_lt b
    refine ⟨?_, fun _ => ?_⟩
    · rw [numF_ge g n (by omega), show n / 128 = v by omega, h1, show 128 + n % 128 = b.toNat by omega, u8_of b _ rfl]
    · rw [hn, show (b :: c :: m).length - 1 = ((c :: m).length - 1) + 1 by simp, Nat.pow_succ]
      have := Nat.mul_le_mul_right 128 hp
      omega
theorem numEnd_take : ∀ (l : List UInt8) (e : Nat), numEnd l = some e → numEnd (l.take e) = some e
  | [], e, h => by simp [numEnd] at h
  | b :: l, e, h => by
    have hp := numEnd_pos _ _ h
    obtain ⟨e', rfl⟩ : ∃ e', e = e' + 1 := ⟨e - 1, by omega⟩
    unfold numEnd at h
    split at h
    · rename_i hb
      simp at h; subst h
      simp [numEnd, hb]
    · rename_i hb
      rw [Option.map_eq_some_iff] at h
      obtain ⟨x, hx, h2⟩ := h
      obtain rfl : x = e' := by omega
      rw [List.take_succ_cons]
      unfold numEnd
      rw [if_neg hb, numEnd_take l x hx]
      rfl
theorem rNum_back {l r : List UInt8} {n : Nat} (h : rNum l = (n, 0, r)) : l = numB n ++ r ∧ n < 18446744073709551616 := by
  unfold rNum at h
  cases he : numEnd l with
  | none => rw [he] at h; simp at h
  | some e =>
    rw [he] at h
    simp only at h
    cases hv : numVal (l.take e) with
    | none => rw [hv] at h; simp at h
    | some v =>
      rw [hv] at h
      simp only [Prod.mk.injEq, true_and] at h
      obtain ⟨rfl, rfl⟩ := h
      have hp := numEnd_pos _ _ he
      have hlen : (l.take e).length = e := by rw [List.length_take]; omega
      have ht := numEnd_take l e he
      unfold numVal at hv
      split at hv
      · cases hv
      · rename_i hc
        have hlast : 1 < (l.take e).length → (l.take e).getLast? ≠ some 0 := fun h1 h2 => hc ⟨h1, h2⟩
        have hlt := valR_lt _ _ _ hv (by omega)
        have hne : l.take e ≠ [] := by intro h0; rw [h0] at hlen; simp at hlen; omega
        have h10 : (l.take e).length ≤ 10 := by
          rcases Nat.lt_or_ge 10 (l.take e).length with h1 | h1
          · have h2 := (numF_back (l.take e) v ((l.take e).length) hne (by rw [hlen]; exact ht) hlast hv (by omega)).2 (hlast (by omega))
            have h3 : 128 ^ 10 ≤ 128 ^ ((l.take e).length - 1) := Nat.pow_le_pow_right (by omega) (by omega)
            have h4 : (18446744073709551616 : Nat) < 128 ^ 10 := by decide
            omega
          · exact h1
        have hb := (numF_back (l.take e) v 9 hne (by rw [hlen]; exact ht) hlast hv (by omega)).1
        refine ⟨?_, hlt⟩
        unfold numB
        rw [hb, List.take_append_drop]
theorem rCount_back {l r : List UInt8} {n : Nat} (h : rCount l = (n, 0, r)) : l = numB n ++ r ∧ n ≤ r.length := by
  unfold rCount at h
  split at h
  · rename_i h0
    simp only [Prod.mk.injEq] at h
    exact absurd h.2.1 h0
  · split at h
    · simp at h
    · rename_i h0 h1
      rw [h] at h1
      exact ⟨(rNum_back h).1, by simp at h1; exact h1⟩
theorem rText_back {l s r : List UInt8} (h : rText l = (s, 0, r)) : l = textB s ++ r := by
  unfold rText at h
  split at h
  · rename_i h0
    simp only [Prod.mk.injEq] at h
    exact absurd h.2.1 h0
  · rename_i h0
    rcases hc : rCount l with ⟨n, e, x⟩
    rw [hc] at h h0
    simp only [ne_eq, Decidable.not_not] at h0
    subst h0
    simp only [Prod.mk.injEq, true_and] at h
    obtain ⟨rfl, rfl⟩ := h
    obtain ⟨h1, h2⟩ := rCount_back hc
    unfold textB
    rw [List.length_take, Nat.min_eq_left h2, h1, List.append_assoc, List.take_append_drop]
theorem rTexts_back : ∀ (n : Nat) {l : List UInt8} {ls : List (List UInt8)} {r : List UInt8}, rTexts n l = (ls, 0, r) → l = textsB ls ++ r ∧ ls.length = n
  | 0, l, ls, r, h => by
    simp only [rTexts, Prod.mk.injEq, true_and] at h
    obtain ⟨rfl, rfl⟩ := h
    simp [textsB]
  | n + 1, l, ls, r, h => by
    unfold rTexts at h
    split at h
    · rename_i h0
      simp only [Prod.mk.injEq] at h
      exact absurd h.2.1 h0
    · rename_i h0
      split at h
      · rename_i h1
        simp only [Prod.mk.injEq] at h
        exact absurd h.2.1 h1
      · rename_i h1
        rcases hc : rText l with ⟨s, e, x⟩
        rw [hc] at h h0 h1
        simp only [ne_eq, Decidable.not_not] at h0 h1
        subst h0
        rcases hd : rTexts n x with ⟨ts, e2, y⟩
        rw [hd] at h h1
        simp only at h h1
        subst h1
        simp only [Prod.mk.injEq, true_and] at h
        obtain ⟨rfl, rfl⟩ := h
        obtain ⟨h2, h3⟩ := rTexts_back n hd
        have h4 := rText_back hc
        refine ⟨?_, by simp [h3]⟩
        rw [h4, h2]
        simp [textsB]
theorem rList_back {l : List UInt8} {ls : List (List UInt8)} {r : List UInt8} (h : rList l = (ls, 0, r)) : l = listB ls ++ r := by
  unfold rList at h
  split at h
  · rename_i h0
    simp only [Prod.mk.injEq] at h
    exact absurd h.2.1 h0
  · rename_i h0
    rcases hc : rCount l with ⟨n, e, x⟩
    rw [hc] at h h0
    simp only [ne_eq, Decidable.not_not] at h0
    subst h0
    obtain ⟨h1, h2⟩ := rTexts_back n h
    obtain ⟨h3, _⟩ := rCount_back hc
    simp only at h1
    unfold listB
    rw [h3, h2, h1, List.append_assoc]
end Go.Proofs.YtifkpelcdihdoaaGreatDoor
namespace Go.Proofs.YtifkpelcdihdoaaGreatDoor
open Go.RowKit
set_option linter.unusedVariables false

theorem sText_back {l t : List UInt8} {s : St} (h : sText (l, 0) = (t, s)) (h0 : s.2 = 0) : l = textB t ++ s.1 := by
  unfold sText at h
  rw [if_pos rfl] at h
  simp only [Prod.mk.injEq] at h
  obtain ⟨h1, h2⟩ := h
  have e : rText l = (t, 0, s.1) := by
    have h3 : (rText l).2.1 = 0 := by rw [← h2] at h0; exact h0
    have h4 : (rText l).2.2 = s.1 := by rw [← h2]
    exact Prod.ext h1 (Prod.ext h3 h4)
  exact rText_back e
theorem sList_back {l : List UInt8} {ls : List (List UInt8)} {s : St} (h : sList (l, 0) = (ls, s)) (h0 : s.2 = 0) : l = listB ls ++ s.1 := by
  unfold sList at h
  rw [if_pos rfl] at h
  simp only [Prod.mk.injEq] at h
  obtain ⟨h1, h2⟩ := h
  have e : rList l = (ls, 0, s.1) := by
    have h3 : (rList l).2.1 = 0 := by rw [← h2] at h0; exact h0
    have h4 : (rList l).2.2 = s.1 := by rw [← h2]
    exact Prod.ext h1 (Prod.ext h3 h4)
  exact rList_back e
theorem sList_stop {s : St} (h : s.2 ≠ 0) : sList s = ([], s) := by unfold sList; rw [if_neg h]
/-- What is read of a patch's bytes. -/
structure ReadsP (l : List UInt8) (t : List UInt8) (ds os : List (List UInt8)) (s3 : St) : Prop where
  ex : ∃ s1 s2 : St, sText (l, 0) = (t, s1) ∧ sList s1 = (ds, s2) ∧ sList s2 = (os, s3)
theorem ReadsP.back {l t : List UInt8} {ds os : List (List UInt8)} {s3 : St} (h : ReadsP l t ds os s3) (h0 : s3.2 = 0) (h1 : s3.1 = []) : l = textB t ++ (listB ds ++ (listB os ++ [])) := by
  obtain ⟨s1, s2, e1, e2, e3⟩ := h.ex
  have z2 : s2.2 = 0 := Decidable.byContradiction fun hne => by
    rw [sList_stop hne] at e3
    simp only [Prod.mk.injEq] at e3
    rw [← e3.2] at h0
    exact hne h0
  have z1 : s1.2 = 0 := Decidable.byContradiction fun hne => by
    rw [sList_stop hne] at e2
    simp only [Prod.mk.injEq] at e2
    rw [← e2.2] at z2
    exact hne z2
  have b1 := sText_back e1 z1
  obtain ⟨l1, k1⟩ := s1
  obtain ⟨l2, k2⟩ := s2
  obtain ⟨l3, k3⟩ := s3
  simp only at z1 z2 h0 h1
  subst z1 z2 h0 h1
  have b2 := sList_back e2 rfl
  have b3 := sList_back e3 rfl
  simp only at b1 b2 b3
  rw [b1, b2, b3]
theorem ReadsP.put {l t : List UInt8} {ds os : List (List UInt8)} {s3 : St} (h : ReadsP l t ds os s3) {p : PatK} (hp : checkP p = 0) (hd : p.deps.length ≤ 9223372036854775807) (he : putP p = l) : t = p.name ∧ ds = p.deps ∧ os = p.ops.map putO ∧ s3 = ([], 0) := by
  obtain ⟨s1, s2, e1, e2, e3⟩ := h.ex
  obtain ⟨na, ma⟩ := checkP_ok.1 hp
  unfold namesP13 at na
  simp only [Bool.and_eq_true, List.all_eq_true] at na
  have oa := may_ops ma
  have fa := may_few ma
  have nm : ∀ {l : List UInt8}, nameK l = true → l.length < 18446744073709551616 := fun h => Nat.lt_of_le_of_lt (name_len h) (by decide)
  rw [← he] at e1
  unfold putP at e1
  rw [sText_text _ _ (nm na.1)] at e1
  simp only [Prod.mk.injEq] at e1
  obtain ⟨rfl, rfl⟩ := e1
  rw [sList_list _ _ (by omega) (fun x hx => nm (na.2 x hx))] at e2
  simp only [Prod.mk.injEq] at e2
  obtain ⟨rfl, rfl⟩ := e2
  rw [sList_list _ _ (by rw [List.length_map]; omega) (fun x hx => by
    obtain ⟨o, ho, rfl⟩ := List.mem_map.1 hx
    obtain ⟨h1, h2, h3⟩ := putO_le (oa o ho)
    omega)] at e3
  simp only [Prod.mk.injEq] at e3
  obtain ⟨rfl, rfl⟩ := e3
  exact ⟨rfl, rfl, rfl, rfl⟩
/-- Bytes that end too early, or are no numbers: no patch's. -/
theorem ReadsP.none {l t : List UInt8} {ds os : List (List UInt8)} {s3 : St} (h : ReadsP l t ds os s3) (hne : s3.2 ≠ 0 ∨ s3.1 ≠ []) : ∀ p : PatK, p.deps.length ≤ 9223372036854775807 → checkP p = 0 → putP p ≠ l := fun p hd hp he => by
  obtain ⟨_, _, _, h4⟩ := h.put hp hd he
  rw [h4] at hne
  simp at hne
/-- Of which operations came the bytes: the patch is one, or none has these bytes. -/
theorem ReadsP.one {l t : List UInt8} {ds os : List (List UInt8)} {s3 : St} (h : ReadsP l t ds os s3) {ks : List OpK} (hk : ks.map putO = os) (hm : ∀ k ∈ ks, mayO k = true) : ∀ p : PatK, p.deps.length ≤ 9223372036854775807 → checkP p = 0 → putP p = l → p = ⟨t, ds, ks⟩ := fun p hd hp he => by
  obtain ⟨h1, h2, h3, _⟩ := h.put hp hd he
  have h4 : p.ops = ks := map_putO (may_ops (checkP_ok.1 hp).2) hm (by rw [← h3, hk])
  obtain ⟨n, d, o⟩ := p
  simp only at h1 h2 h4
  rw [h1, h2, h4]
end Go.Proofs.YtifkpelcdihdoaaGreatDoor
namespace Go.Proofs.YtifkpelcdihdoaaGreatDoor
open Go.RowKit
set_option linter.unusedVariables false

theorem sized_pat : (Tryz.prog.info? 35).map (·.size) = some 3 := by kernel_rfl
theorem ret_pat {fn : Func} {p : Tmp} (h : fn.results = #[.cell p 35]) (tmps : Array Value) (w : World) (g : Nat) (u0 u1 u2 : Value) (hp : tmps.getD p undef = .pointer (some ⟨g, 0, none⟩)) (k : PatB w g u0 u1 u2) :
    (results fn tmps).run Tryz.prog w = .ok (.agg #[u0, u1, u2]) w :=
  results_cell_row h tmps w g 35 #[u0, u1, u2] (0, 0) _ hp k.blk Tryz.underlying35 rfl sized_pat
theorem patb_set3 {w : World} {g : Nat} {v0 v1 v2 : Value} (h : PatB w g v0 v1 v2) (u0 u1 u2 : Value) : PatB (((w.setCell ⟨g, 0, none⟩ u0).setCell ⟨g, 1, none⟩ u1).setCell ⟨g, 2, none⟩ u2) g u0 u1 u2 := ⟨by simp [World.setCell, Array.getElem?_modify, h.blk]⟩
theorem grown_set3 (w : World) (g : Nat) (u0 u1 u2 : Value) : w.grownBy (((w.setCell ⟨g, 0, none⟩ u0).setCell ⟨g, 1, none⟩ u1).setCell ⟨g, 2, none⟩ u2) (some g) := Rk.grown_both (Rk.grown_both (grownBy_set w g 0 _) (grownBy_set _ g 1 _)) (grownBy_set _ g 2 _)
section
variable {w W W' : World} {gr g gp : Nat} {s s' : St} {u0 u1 u2 : Value}
end
end Go.Proofs.YtifkpelcdihdoaaGreatDoor
