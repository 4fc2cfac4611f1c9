/- Words for memory: steps, and rows of steps. The statements' Light of layer 3 (other layers call it too). The reference's May and Same of layer 4; the statements' Light of hunks. The reference's Same of layer 4; the statements' Light of hunks. Package lines' Same; package diff's copied and hunk. -/
import Derived.Test.YtaepfahpbnpeiaaGreatDoorCk18
import Derived.Test.YtaepfahpbnpeiaaGreatDoorCk19
import Derived.Test.YtaepfahpbnpeiaaGreatDoorCk01
import Derived.WalkKit
import Derived.Handy
import Derived.Lib.Hide
import Derived.Test.YtaepfahpbnpeiaaGreatDoorCk05
import Derived.Test.YtaepfahpbnpeiaaGreatDoorCk02
import Derived.Test.YtaepfahpbnpeiaaGreatDoorShelf
namespace Go.Proofs.YtaepfahpbnpeiaaGreatDoor
open Go.RowKit
set_option linter.unusedVariables false

/-- A step as it lies: its parts, and both slices, with the lines that they hold. -/
structure Pm where
  kind : Int
  p : ByteArray
  dst : ByteArray
  at_ : Int
  a1 : Option Addr
  c1 : Nat
  old : List (List UInt8)
  a2 : Option Addr
  c2 : Nat
  new : List (List UInt8)
def Pm.cells (x : Pm) : List Value := [.int .i64 x.kind, .string x.p, .string x.dst, .int .i64 x.at_, .slice x.a1 x.old.length x.c1, .slice x.a2 x.new.length x.c2]
def Pm.val (x : Pm) : Value := .agg #[.int .i64 x.kind, .string x.p, .string x.dst, .int .i64 x.at_, .slice x.a1 x.old.length x.c1, .slice x.a2 x.new.length x.c2]
def Pm.key (x : Pm) : Pk := ⟨x.kind, x.p.data.toList, x.dst.data.toList, x.at_, x.old, x.new⟩
def Pm.hm (x : Pm) : Hm := ⟨x.at_, x.a1, x.c1, x.old, x.a2, x.c2, x.new⟩
def pkeys (ps : List Pm) : List Pk := ps.map Pm.key
theorem pkeys_len (ps : List Pm) : (pkeys ps).length = ps.length := by simp [pkeys]
/-- Both slices' lines lie below B. -/
structure Pm.Ok (x : Pm) (w : World) (B : Nat) : Prop where
  h : x.hm.Ok w B
  p : x.p.size ≤ 9223372036854775807
  q : x.dst.size ≤ 9223372036854775807
  lo : -9223372036854775808 ≤ x.kind
  hi : x.kind ≤ 9223372036854775807
/-- A step that is not far too long. -/
structure Pm.Light (x : Pm) : Prop where
  p : x.p.size ≤ 300
  q : x.dst.size ≤ 300
  old : LightK x.old
  new : LightK x.new
/-- Steps lie at A, six cells each, in a block below B. -/
structure Ps (w : World) (B : Nat) (A : Option Addr) (ps : List Pm) : Prop where
  at_ : 0 < ps.length → ∃ b off, A = some ⟨b, off, none⟩ ∧ b < B ∧ ∀ j (h : j < ps.length), w.cell? ⟨b, off + j * 6, none⟩ = some (.int .i64 ps[j].kind) ∧ w.cell? ⟨b, off + j * 6 + 1, none⟩ = some (.string ps[j].p) ∧
    w.cell? ⟨b, off + j * 6 + 2, none⟩ = some (.string ps[j].dst) ∧ w.cell? ⟨b, off + j * 6 + 3, none⟩ = some (.int .i64 ps[j].at_) ∧ w.cell? ⟨b, off + j * 6 + 4, none⟩ = some (.slice ps[j].a1 ps[j].old.length ps[j].c1) ∧ w.cell? ⟨b, off + j * 6 + 5, none⟩ = some (.slice ps[j].a2 ps[j].new.length ps[j].c2)
  ok : ∀ x ∈ ps, x.Ok w B

section
variable {w w' : World} {B B' : Nat} {A : Option Addr} {ps : List Pm} {x : Pm}
theorem Pm.Ok.below (k : x.Ok w B) (hb : Below B w w') : x.Ok w' B := ⟨k.h.below hb, k.p, k.q, k.lo, k.hi⟩
theorem Pm.Ok.more (k : x.Ok w B) (hB : B ≤ B') : x.Ok w B' := ⟨k.h.more hB, k.p, k.q, k.lo, k.hi⟩
theorem Pm.Ok.on (k : x.Ok w w.heap.size) (hb : Below w.heap.size w w') : x.Ok w' w'.heap.size := (k.below hb).more hb.size
theorem Ps.below (k : Ps w B A ps) (hb : Below B w w') : Ps w' B A ps :=
  ⟨fun hp => by
    obtain ⟨b, off, e, hlt, hc⟩ := k.at_ hp
    refine ⟨b, off, e, hlt, fun j hj => ?_⟩
    obtain ⟨h1, h2, h3, h4, h5, h6⟩ := hc j hj
    have c := fun i => hb.cell (p := ⟨b, i, none⟩) hlt
    exact ⟨(c _).trans h1, (c _).trans h2, (c _).trans h3, (c _).trans h4, (c _).trans h5, (c _).trans h6⟩, fun h hh => (k.ok h hh).below hb⟩
theorem Ps.more (k : Ps w B A ps) (hB : B ≤ B') : Ps w B' A ps :=
  ⟨fun hp => by
    obtain ⟨b, off, e, hlt, hc⟩ := k.at_ hp
    exact ⟨b, off, e, by omega, hc⟩, fun h hh => (k.ok h hh).more hB⟩
theorem Ps.on (k : Ps w w.heap.size A ps) (hb : Below w.heap.size w w') : Ps w' w'.heap.size A ps := (k.below hb).more hb.size
theorem Ps.nil : Ps w B A [] := ⟨fun h => absurd h (by simp), fun h hh => by cases hh⟩
theorem Ps.get (k : Ps w B A ps) {j : Nat} (hj : j < ps.length) : ∃ b off, A = some ⟨b, off, none⟩ ∧ b < B ∧ w.cell? ⟨b, off + j * 6, none⟩ = some (.int .i64 ps[j].kind) ∧ w.cell? ⟨b, off + j * 6 + 1, none⟩ = some (.string ps[j].p) ∧
    w.cell? ⟨b, off + j * 6 + 2, none⟩ = some (.string ps[j].dst) ∧ w.cell? ⟨b, off + j * 6 + 3, none⟩ = some (.int .i64 ps[j].at_) ∧ w.cell? ⟨b, off + j * 6 + 4, none⟩ = some (.slice ps[j].a1 ps[j].old.length ps[j].c1) ∧ w.cell? ⟨b, off + j * 6 + 5, none⟩ = some (.slice ps[j].a2 ps[j].new.length ps[j].c2) := by
  obtain ⟨b, off, e, hlt, hc⟩ := k.at_ (by omega)
  exact ⟨b, off, e, hlt, hc j hj⟩
end

/-- A step of its own lies in block g. -/
def PrimAt (w : World) (g : Nat) (x : Pm) : Prop := w.heap[g]? = some (.cells x.cells.toArray 38 (0, 0))
section
variable {w w' : World} {g : Nat} {x : Pm}
theorem PrimAt.c0 (k : PrimAt w g x) : w.cell? ⟨g, 0, none⟩ = some (.int .i64 x.kind) := by simp [World.cell?, show w.heap[g]? = _ from k, Pm.cells]
theorem PrimAt.c1 (k : PrimAt w g x) : w.cell? ⟨g, 1, none⟩ = some (.string x.p) := by simp [World.cell?, show w.heap[g]? = _ from k, Pm.cells]
theorem PrimAt.c2 (k : PrimAt w g x) : w.cell? ⟨g, 2, none⟩ = some (.string x.dst) := by simp [World.cell?, show w.heap[g]? = _ from k, Pm.cells]
theorem PrimAt.c3 (k : PrimAt w g x) : w.cell? ⟨g, 3, none⟩ = some (.int .i64 x.at_) := by simp [World.cell?, show w.heap[g]? = _ from k, Pm.cells]
theorem PrimAt.c4 (k : PrimAt w g x) : w.cell? ⟨g, 4, none⟩ = some (.slice x.a1 x.old.length x.c1) := by simp [World.cell?, show w.heap[g]? = _ from k, Pm.cells]
theorem PrimAt.c5 (k : PrimAt w g x) : w.cell? ⟨g, 5, none⟩ = some (.slice x.a2 x.new.length x.c2) := by simp [World.cell?, show w.heap[g]? = _ from k, Pm.cells]
theorem PrimAt.fz (k : PrimAt w g x) (i : Nat) : w.frozen? ⟨g, i, none⟩ = false := by simp [World.frozen?, show w.heap[g]? = _ from k]
theorem PrimAt.lt (k : PrimAt w g x) : g < w.heap.size := (Array.getElem?_eq_some_iff.1 k).1
theorem PrimAt.on (k : PrimAt w g x) (hb : Below w.heap.size w w') : PrimAt w' g x := (hb.block g k.lt).trans k
theorem PrimAt.grown {row : Option Nat} (k : PrimAt w g x) (hg : w.grownBy w' row) (hr : row ≠ some g) : PrimAt w' g x := (hg.block g k.lt (fun e => hr e.symm)).trans k
theorem PrimAt.new_ (w : World) (x : Pm) : PrimAt (w.alloc (.cells x.cells.toArray 38)) w.heap.size x := heap_alloc_new w _
end

def pcells (ps : List Pm) : List Value := ps.flatMap Pm.cells
theorem pcells_len : ∀ (ps : List Pm), (pcells ps).length = ps.length * 6
  | [] => rfl
  | h :: ps => by
    have := pcells_len ps
    simp only [pcells, List.flatMap_cons, List.length_append, List.length_cons] at *
    rw [this]
    show 6 + _ = _
    omega
theorem pcells_get : ∀ (ps : List Pm) (j : Nat) (hj : j < ps.length), (pcells ps)[j * 6]? = some (.int .i64 ps[j].kind) ∧ (pcells ps)[j * 6 + 1]? = some (.string ps[j].p) ∧ (pcells ps)[j * 6 + 2]? = some (.string ps[j].dst) ∧ (pcells ps)[j * 6 + 3]? = some (.int .i64 ps[j].at_) ∧
    (pcells ps)[j * 6 + 4]? = some (.slice ps[j].a1 ps[j].old.length ps[j].c1) ∧ (pcells ps)[j * 6 + 5]? = some (.slice ps[j].a2 ps[j].new.length ps[j].c2)
  | h :: ps, 0, hj => ⟨rfl, rfl, rfl, rfl, rfl, rfl⟩
  | h :: ps, j + 1, hj => by
    have ih := pcells_get ps j (by simpa using hj)
    have e : ∀ r, (pcells (h :: ps))[(j + 1) * 6 + r]? = (pcells ps)[j * 6 + r]? := by
      intro r
      have e1 : pcells (h :: ps) = h.cells ++ pcells ps := rfl
      rw [e1, List.getElem?_append_right (by show 6 ≤ _; omega)]
      congr 1
      show _ - 6 = _
      omega
    have e0 := e 0
    rw [Nat.add_zero, Nat.add_zero] at e0
    rw [e0, e 1, e 2, e 3, e 4, e 5]
    exact ih
theorem pcells_app (a b : List Pm) : pcells (a ++ b) = pcells a ++ pcells b := by simp [pcells]
/-- A slice of steps that the call made. -/
def OwnP (w : World) (B : Nat) (v : Value) (ps : List Pm) : Prop := w.ownsRow B 38 6 v ps.length (pcells ps)
theorem OwnP.nil (w : World) (B : Nat) : OwnP w B (.slice none 0 0) [] := w.ownsRow_nil B 38 6
theorem OwnP.ps {w : World} {B : Nat} {v : Value} {ps : List Pm} (h : OwnP w B v ps) (hok : ∀ x ∈ ps, x.Ok w w.heap.size) : ∃ A cap, v = .slice A ps.length cap ∧ Ps w w.heap.size A ps ∧ Room A ps.length cap := by
  have h' := h
  rcases h.2 with ⟨rfl, h0⟩ | ⟨g, cap, cur, rfl, _, hg, hcap, _⟩
  · have e : ps = [] := List.length_eq_zero_iff.1 h0
    subst e
    exact ⟨none, 0, rfl, Ps.nil, fun _ => rfl, Nat.le_refl _⟩
  · refine ⟨_, cap, rfl, ⟨fun hp => ⟨g, 0, rfl, (Array.getElem?_eq_some_iff.1 hg).1, fun j hj => ?_⟩, hok⟩, (fun e => by cases e), hcap⟩
    obtain ⟨c0, c1, c2, c3, c4, c5⟩ := pcells_get ps j hj
    have e : ∀ i, (⟨g, 0, none⟩ : Addr).add i = ⟨g, i, none⟩ := fun i => by unfold Addr.add; split <;> simp_all
    have k0 := h'.cells (g := g) rfl _ _ c0
    have k1 := h'.cells (g := g) rfl _ _ c1
    have k2 := h'.cells (g := g) rfl _ _ c2
    have k3 := h'.cells (g := g) rfl _ _ c3
    have k4 := h'.cells (g := g) rfl _ _ c4
    have k5 := h'.cells (g := g) rfl _ _ c5
    rw [e] at k0 k1 k2 k3 k4 k5
    rw [Nat.zero_add]
    exact ⟨k0, k1, k2, k3, k4, k5⟩
theorem OwnP.kept {w w' : World} {B : Nat} {v : Value} {ps : List Pm} (h : OwnP w B v ps) (hb : Below w.heap.size w w') : OwnP w' B v ps :=
  World.ownsRow.kept h (row := none) ⟨hb.os, hb.tape, hb.output, hb.size, fun i hi _ => hb.block i hi⟩ (by cases v.ownBlock <;> simp)
theorem ownBlock_gep {w : World} {B : Nat} {v : Value} {ps : List Pm} (h : OwnP w B v ps) : ∀ k, v.ownBlock = some k → B ≤ k := fun k hk => (World.ownsRow.lt h k hk).1
theorem below_appendp {w0 w w' : World} {B : Nat} {v : Value} {ps : List Pm} (hb : Below B w0 w) (ho : OwnP w B v ps) (hg : w.grownBy w' v.ownBlock) (hB : B ≤ w0.heap.size) : Below B w0 w' :=
  hb.grown hg (Nat.le_trans hB hb.size) (ownBlock_gep ho)
theorem info_prim : (Tryz.prog.info? 38).map (fun i => (i.zero, i.size, i.bytes)) = some (some (.agg #[.int .i64 0, .string ByteArray.empty, .string ByteArray.empty, .int .i64 0, .slice none 0 0, .slice none 0 0]), 6, 96) := by kernel_rfl
theorem wpList_append_prim {w : World} {ops : Array Oper} {rest : List Oper} {o : Oper} {a : Act} {Q : Exit → Act → World → Prop} (hgd : o.guard = none) (s x : Operand)
    (ho : o.op = .call { callee := .builtin .append, args := #[s, x], argTypes := #[23, 23] })
    (B : Nat) (v : Value) (hs : List Pm) (hv : a.eval s = v) (hown : OwnP w B v hs) (h : Pm) (b : Nat) (hx : a.eval x = .slice (some ⟨b, 0, none⟩) 1 1) (hb : PrimAt w b h) (hB : B ≤ w.heap.size) (hle : hs.length ≤ 100000)
    (H : Nat) (hH : w.heap.size = H)
    (k : ∀ g cap w', OwnP w' B (.slice (some ⟨g, 0, none⟩) (hs.length + 1) cap) (hs ++ [h]) → w.grownBy w' v.ownBlock → (v.ownBlock = some g ∨ g = H) → wpList Tryz.prog ops Q rest (a.put o.dst (.slice (some ⟨g, 0, none⟩) (hs.length + 1) cap)) w') : wpList Tryz.prog ops Q (o :: rest) a w := by
  obtain ⟨i0, hi, hz0, hz1, hz2⟩ := info_parts info_prim
  refine wpList_append_lies w hgd s x 23 ho B 38 i0 _ 6 96 Tryz.underlying23 hi hz0 hz1 hz2 rfl (by decide) v hs.length (pcells hs) hv hown ⟨b, 0, none⟩ 1 1 h.cells hx rfl ?_ ?_ (by decide) (by unfold maxLen; omega) (by omega) hB H hH ?_
  · exact World.news_of_block hb
  · intro u hu
    simp only [Pm.cells, List.mem_cons, List.not_mem_nil, or_false] at hu
    rcases hu with rfl | rfl | rfl | rfl | rfl | rfl <;> rfl
  · intro g cap w' ho' hg hat _
    refine k g cap w' ?_ hg hat
    unfold OwnP
    rw [List.length_append]
    have e : pcells (hs ++ [h]) = pcells hs ++ h.cells := by simp [pcells]
    rw [e]
    exact ho'
theorem sized_prim : (Tryz.prog.info? 38).map (·.size) = some 6 := by kernel_rfl
theorem load_primv {w : World} {g : Nat} {x : Pm} (k : PrimAt w g x) : (loadVar 38 ⟨g, 0, none⟩).run Tryz.prog w = .ok (.agg x.cells.toArray) w :=
  run_loadVar_row w g 38 38 x.cells.toArray (0, 0) _ k Tryz.underlying38 rfl sized_prim
/-- A step handed back by value. -/
theorem ret_prim {fn : Func} {p : Tmp} (h : fn.results = #[.cell p 38]) (tmps : Array Value) (w : World) (g : Nat) (x : Pm) (hp : tmps.getD p undef = .pointer (some ⟨g, 0, none⟩)) (k : PrimAt w g x) :
    (results fn tmps).run Tryz.prog w = .ok (.agg x.cells.toArray) w :=
  results_cell_row h tmps w g 38 _ (0, 0) _ hp k Tryz.underlying38 rfl sized_prim
/-- A step written over, cell by cell. -/
def setPrim (w : World) (g : Nat) (x : Pm) : World := (((((w.setCell ⟨g, 0, none⟩ (.int .i64 x.kind)).setCell ⟨g, 1, none⟩ (.string x.p)).setCell ⟨g, 2, none⟩ (.string x.dst)).setCell ⟨g, 3, none⟩ (.int .i64 x.at_)).setCell ⟨g, 4, none⟩ (.slice x.a1 x.old.length x.c1)).setCell ⟨g, 5, none⟩ (.slice x.a2 x.new.length x.c2)
theorem setPrim_at {w : World} {g : Nat} {x0 : Pm} (k : PrimAt w g x0) (x : Pm) : PrimAt (setPrim w g x) g x := by
  unfold PrimAt at k ⊢
  simp [setPrim, World.setCell, Array.getElem?_modify, k, Pm.cells]
theorem setPrim_grown (w : World) (g : Nat) (x : Pm) : w.grownBy (setPrim w g x) (some g) :=
  grown_on (grown_on (grown_on (grown_on (grown_on (grown_cell _ _ _ _) (grown_cell _ _ _ _)) (grown_cell _ _ _ _)) (grown_cell _ _ _ _)) (grown_cell _ _ _ _)) (grown_cell _ _ _ _)
theorem below_prim {w0 w : World} {B g : Nat} (x : Pm) (h : Below B w0 w) (hg : B ≤ g) (hB : B ≤ w.heap.size) : Below B w0 (setPrim w g x) :=
  h.grown (setPrim_grown w g x) hB fun k hk => by simp only [Option.some.injEq] at hk; omega
end Go.Proofs.YtaepfahpbnpeiaaGreatDoor
namespace Go.Proofs.YtaepfahpbnpeiaaGreatDoor
open Go.RowKit
set_option linter.unusedVariables false

/-- Texts that are not far too many. -/
def light3B (ss : List ByteArray) : Bool := ss.all (fun s => decide (s.size ≤ 300)) && decide (ss.length ≤ 60)
theorem light3B_no {ss : List ByteArray} {k : Nat} (hk : k < ss.length) (h : 300 < ss[k].size) : light3B ss = false := by
  have : ¬ ss.all (fun s => decide (s.size ≤ 300)) = true := by
    rw [List.all_eq_true]
    intro ha
    have := ha ss[k] (List.getElem_mem _)
    simp at this
    omega
  unfold light3B
  rw [Bool.not_eq_true] at this
  rw [this]; simp
theorem light3B_yes {ss : List ByteArray} (h : ∀ j (hj : j < ss.length), ss[j].size ≤ 300) : light3B ss = decide (ss.length ≤ 60) := by
  unfold light3B
  have : ss.all (fun s => decide (s.size ≤ 300)) = true := by
    rw [List.all_eq_true]
    intro s hs
    obtain ⟨j, hj, rfl⟩ := List.getElem_of_mem hs
    simpa using h j hj
  rw [this]; simp
theorem light3B_len {ss : List ByteArray} (h : light3B ss = true) : ss.length ≤ 60 := by
  unfold light3B at h
  simp at h
  exact h.2

set_option maxRecDepth 100000 in
theorem light3_any (A : Option Addr) (ss : List ByteArray) (cap : Nat) (w : World) (hs : Strs w w.heap.size A ss) (hn : ss.length ≤ 9223372036854775807) :
    Calls Tryz.prog 18 #[.slice A ss.length cap] w fun e w' => e = .returned (.bool (light3B ss)) ∧ w = w' := by
  go_enter Tryz.func18, Tryz.ntmps18
  go_wp2
  go_loop [3] (fun i => ∃ k : Nat, k ≤ ss.length ∧ i = .int .i64 (k : Int) ∧ Hid (∀ j (hj : j < ss.length), j < k → ss[j].size ≤ 300)) (fun i => ss.length - (intOf i).toNat)
  case atStart => exact ⟨0, Nat.zero_le _, rfl, fun j _ h => absurd h (by omega)⟩
  case round =>
    obtain ⟨k, hk, rfl, hall⟩ := hrel
    by_cases hlt : k < ss.length
    · obtain ⟨g, off, rfl, hg, hc⟩ := hs.at_ hlt
      have hno := Lib.hid (light3B_no hlt)
      have hyes : Hid (((ss[k].size : Int) ≤ 300) → ∀ j (hj : j < ss.length), j < k + 1 → ss[j].size ≤ 300) := by
        intro h j hj hjk
        by_cases he : j = k
        · subst he; omega
        · exact hall.out j hj (by omega)
      generalize ss[k] = s at *
      clear hs hall
      by_cases h3 : 300 < s.size
      · have hno2 := Lib.hid (hno.out (by omega))
        clear hno hyes
        go_wp2
        go_ret
        rw [hno2.out]
        exact ⟨rfl, rfl⟩
      · have hyes2 := Lib.hid (hyes.out (by omega))
        clear hno hyes
        go_wp2
        go_round
        case rel => exact ⟨k + 1, by omega, by go_num, hyes2⟩
        case measure => simp [intOf]; omega
    · have hk2 : k = ss.length := by omega
      subst hk2
      have hy := Lib.hid (light3B_yes (fun j hj => hall.out j hj hj))
      clear hall
      go_wp2
      go_ret
      rw [hy.out]
      exact ⟨by simp; omega, rfl⟩
end Go.Proofs.YtaepfahpbnpeiaaGreatDoor
namespace Go.Proofs.YtaepfahpbnpeiaaGreatDoor
open Go.RowKit
set_option linter.unusedVariables false

end Go.Proofs.YtaepfahpbnpeiaaGreatDoor
namespace Go.Proofs.YtaepfahpbnpeiaaGreatDoor
open Go.RowKit
set_option linter.unusedVariables false

/-- What a hunk says. -/
def Hm.key (h : Hm) : Int × List (List UInt8) × List (List UInt8) := (h.at_, h.old, h.new)
def keys (hs : List Hm) : List (Int × List (List UInt8) × List (List UInt8)) := hs.map Hm.key
/-- Lists of lines that are not far too long. -/
def Small (hs : List Hm) : Prop := hs.length ≤ 1000000 ∧ ∀ h ∈ hs, h.old.length ≤ 1000000 ∧ h.new.length ≤ 1000000
theorem same_qq (A A2 : Option Addr) (la lc : List (List UInt8)) (cap cap2 : Nat) (w : World) (d : Bool) (hd : decide (la = lc) = d) (hs : Strs w w.heap.size A (toBs la)) (ht : Strs w w.heap.size A2 (toBs lc)) (hn : la.length ≤ 1000000) (hn2 : lc.length ≤ 1000000) (n : Nat) :
    Calls Tryz.prog 24 #[.slice A la.length cap, .slice A2 lc.length cap2] (w.drewN n) fun e w' => e = .returned (.bool d) ∧ ∃ m, w' = w.drewN m := by
  have h := same_q A A2 (toBs la) (toBs lc) cap cap2 (w.drewN n) hs ht (by rw [toBs_len]; omega) (by rw [toBs_len]; omega)
  rw [toBs_len, toBs_len, show decide (toBs la = toBs lc) = d from by
    rw [← hd]
    congr 1
    refine propext ⟨fun h => ?_, fun h => by rw [h]⟩
    have := congrArg lists h
    rwa [lists_toBs, lists_toBs] at this] at h
  exact Calls.quiet_of h

end Go.Proofs.YtaepfahpbnpeiaaGreatDoor
namespace Go.Proofs.YtaepfahpbnpeiaaGreatDoor
open Go.RowKit
set_option linter.unusedVariables false

theorem sequal_q (A A2 : Option Addr) (ss tt : List ByteArray) (cap cap2 : Nat) (w : World) (hs : Strs w w.heap.size A ss) (ht : Strs w w.heap.size A2 tt)
    (hn : ss.length ≤ 140737488351232) (hn2 : tt.length ≤ 140737488351232) :
    Calls Tryz.prog 77 #[.slice A ss.length cap, .slice A2 tt.length cap2] w fun e w' => e = .returned (.bool (decide (ss = tt))) ∧ ∃ q, w' = w.drewN q := by
  by_cases hl : ss.length = tt.length
  · by_cases h0 : ss.length = 0
    · have e1 : ss = [] := List.length_eq_zero_iff.1 h0
      have e2 : tt = [] := List.length_eq_zero_iff.1 (by omega)
      subst e1 e2
      exact (Tryz.slices_Equal_string_empty A A2 cap 0 cap2 w (by decide)).mono fun e w' ⟨h1, h2⟩ => ⟨h1, 0, h2⟩
    · obtain ⟨b, off, rfl, _, h1⟩ := hs (by omega)
      obtain ⟨b2, off2, rfl, _, h2⟩ := ht (by omega)
      have h := Tryz.slices_Equal_string b off ss.length cap b2 off2 tt.length cap2 ss tt w (Nat.le_refl _) (Nat.le_refl _) (by omega) (by omega) (fun j hj => by rw [h1 j hj]; simp [List.getD, hj]) (fun j hj => by rw [h2 j hj]; simp [List.getD, hj])
      rwa [List.take_length, List.take_length] at h
  · have hd : decide (ss = tt) = false := by
      rw [decide_eq_false_iff_not]
      exact fun e => hl (by rw [e])
    rw [hd]
    exact (Tryz.slices_Equal_string_lens A A2 ss.length cap tt.length cap2 w hl).mono fun e w' ⟨h1, h2⟩ => ⟨h1, 0, h2⟩
theorem lsame_q (A A2 : Option Addr) (la lc : List (List UInt8)) (cap cap2 : Nat) (w : World) (d : Bool) (hd : decide (la = lc) = d) (hs : Strs w w.heap.size A (toBs la)) (ht : Strs w w.heap.size A2 (toBs lc)) (hn : la.length ≤ 1000000) (hn2 : lc.length ≤ 1000000) :
    Calls Tryz.prog 50 #[.slice A la.length cap, .slice A2 lc.length cap2] w fun e w' => e = .returned (.bool d) ∧ ∃ q, w' = w.drewN q := by
  have h := sequal_q A A2 (toBs la) (toBs lc) cap cap2 w hs ht (by rw [toBs_len]; omega) (by rw [toBs_len]; omega)
  rw [toBs_len, toBs_len, show decide (toBs la = toBs lc) = d from by
    rw [← hd]
    congr 1
    refine propext ⟨fun h => ?_, fun h => by rw [h]⟩
    have := congrArg lists h
    rwa [lists_toBs, lists_toBs] at this] at h
  have HH := Lib.hid h
  clear h hs ht hd
  go_enter Tryz.func50, Tryz.ntmps50
  go_wp2_with fail
  refine HH.out.mono ?_
  rintro e w' ⟨rfl, q, rfl⟩
  go_wp2
  go_ret
  exact ⟨rfl, q, rfl⟩
theorem lsame_qq (A A2 : Option Addr) (la lc : List (List UInt8)) (cap cap2 : Nat) (w : World) (d : Bool) (hd : decide (la = lc) = d) (hs : Strs w w.heap.size A (toBs la)) (ht : Strs w w.heap.size A2 (toBs lc)) (hn : la.length ≤ 1000000) (hn2 : lc.length ≤ 1000000) (n : Nat) :
    Calls Tryz.prog 50 #[.slice A la.length cap, .slice A2 lc.length cap2] (w.drewN n) fun e w' => e = .returned (.bool d) ∧ ∃ m, w' = w.drewN m :=
  Calls.quiet_of (lsame_q A A2 la lc cap cap2 (w.drewN n) d hd hs ht hn hn2)

end Go.Proofs.YtaepfahpbnpeiaaGreatDoor
