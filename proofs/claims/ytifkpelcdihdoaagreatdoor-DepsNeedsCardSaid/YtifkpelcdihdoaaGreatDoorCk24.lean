/- A whole operation read in a region that draws its order, or under a guard. Package op: Comes, Ids; the library's DeleteFunc of ids that nobody made. -/
import Derived.Test.YtifkpelcdihdoaaGreatDoorProg
import Derived.WalkKit
import Derived.WalkSpells
import Derived.Handy
import Derived.Lib.Hide
import Derived.Shelf.Strings.BuilderK
import Derived.BigQuiet
import Derived.Deep.QuietTactic
import Derived.Lib.AtoiAllCases
import Derived.Lib.ItoaMem
import Derived.Test.YtifkpelcdihdoaaGreatDoorShelf
import Derived.Deep.RegionHeld3
import Derived.Deep.CutRange
import Derived.Lib.AppendIntMem
import Derived.Deep.RegionHeld
import Derived.Test.YtifkpelcdihdoaaGreatDoorCk09
namespace Go.Proofs.YtifkpelcdihdoaaGreatDoor
open Go.RowKit
set_option linter.unusedVariables false

theorem yields_load_op {ops : Array Oper} {S : World → Prop} {o : Oper} {a : Act} (hw : Region.wanted o (yielded ops a.tmps) = true) (x : Operand) (ho : o.op = .load 84 x) (g : Nat) (z : Om) (hx : a.eval x = .pointer (some ⟨g, 0, none⟩)) (hz : ∀ W, S W → OpAt W g z) :
    YieldsIf Tryz.prog ops S o (.agg #[.int .i64 z.kind, .string z.self.p, .int .i64 z.self.n, .string z.parent.p, .int .i64 z.parent.n, .string z.dst.p, .int .i64 z.dst.n, .string z.name, .string z.dname, .string z.left.p, .int .i64 z.left.n, .string z.right.p, .int .i64 z.right.n, .slice z.a1 z.dels.length z.c1, .int .i64 z.first, .slice z.a2 z.lines.length z.c2]) a :=
  Or.inl ⟨hw, fun W hW => by
    unfold execOp
    simp only [ho, hx, Instr.loadAt, Instr.sureAddr, Sem.run_bind, Sem.run_pure, Result.andThen_ok, load_op (hz W hW)]
    try rfl⟩
theorem wpList_load_opw {ops : Array Oper} {rest : List Oper} {op : Oper} {a : Act} {w : World} {Q : Exit → Act → World → Prop} (x : Operand) (g : Nat) (z : Om) (hz : OpAt w g z) (ho : op.op = .load 84 x) (hw : Region.wanted op (yielded ops a.tmps) = true)
    (hx : a.eval x = .pointer (some ⟨g, 0, none⟩)) (h : wpList Tryz.prog ops Q rest (a.put op.dst z.val) w) : wpList Tryz.prog ops Q (op :: rest) a w :=
  wpList_step fun K hK => by
    simp only [hw, if_true]
    exact wp_load_mid 84 x ho g 0 hx z.cells _ (fun j v hv => by rw [Nat.zero_add]; exact hz.cell hv) Tryz.underlying84 rfl sized_op (hK _ _ h)
end Go.Proofs.YtifkpelcdihdoaaGreatDoor
namespace Go.Proofs.YtifkpelcdihdoaaGreatDoor
open Go.RowKit
set_option linter.unusedVariables false

set_option maxHeartbeats 4000000 in
set_option maxRecDepth 100000 in
theorem opcomes_any (p : ByteArray) (x : Om) (w : World) (ox : x.Ok w w.heap.size) (hf : x.first ≤ 1099511627776) :
    Calls Tryz.prog 101 #[.string p, .agg #[.int .i64 x.kind, .string x.self.p, .int .i64 x.self.n, .string x.parent.p, .int .i64 x.parent.n, .string x.dst.p, .int .i64 x.dst.n, .string x.name, .string x.dname, .string x.left.p, .int .i64 x.left.n, .string x.right.p, .int .i64 x.right.n, .slice x.a1 x.dels.length x.c1, .int .i64 x.first, .slice x.a2 x.lines.length x.c2]] w (IdsLeft w (comesO p.data.toList x.key)) := by
  obtain ⟨hb, hx⟩ := op_box w x
  have HX := Lib.hid hx
  have HF := Lib.hid hb
  have OX := Lib.hid (ox.on hb)
  clear hb hx ox
  go_enter Tryz.func101, Tryz.ntmps101
  go_upto_region 1 with (fail)
  generalize (w.alloc (.cells #[.int .i64 x.kind, .string x.self.p, .int .i64 x.self.n, .string x.parent.p, .int .i64 x.parent.n, .string x.dst.p, .int .i64 x.dst.n, .string x.name, .string x.dname, .string x.left.p, .int .i64 x.left.n, .string x.right.p, .int .i64 x.right.n, .slice x.a1 x.dels.length x.c1, .int .i64 x.first, .slice x.a2 x.lines.length x.c2] 84)) = wb at *
  have c_kind := (op_cells HX.out).kind
  by_cases h1 : x.kind = 1
  · have q1 : (x.kind == 1) = true := by simpa using h1
    have hc := op_cells HX.out
    have c_selfp := hc.selfp
    have c_selfn := hc.selfn
    clear hc
    have hal : Below wb.heap.size wb (wb.alloc (.cells #[.string x.self.p, .int .i64 x.self.n] 81)) := (Below.refl _ _).alloc (Nat.le_refl _) _
    have HO : Hid (OwnId (wb.alloc (.cells #[.string x.self.p, .int .i64 x.self.n] 81)) w.heap.size (.slice (some ⟨wb.heap.size, 0, none⟩) 1 1) [x.self]) := World.ownsRow_lit (base := w.heap.size) (e := 81) (size := 2) wb #[.string x.self.p, .int .i64 x.self.n] 1 HF.out.size (by decide) rfl
    have HB := Lib.hid (HF.out.trans (hal.mono HF.out.size))
    clear hal
    go_wp2
    go_ret
    exact ⟨some ⟨wb.heap.size, 0, none⟩, 1, 1, [x.self], rfl, (by show _ = comesO _ x.key; unfold comesO; rw [if_pos (show x.key.kind = 1 ∨ x.key.kind = 2 by first | exact .inl h1 | exact .inr h2)]; rfl), HO.out, HB.out⟩
  · have q1 : (x.kind == 1) = false := by simpa using h1
    by_cases h2 : x.kind = 2
    · have q2 : (x.kind == 2) = true := by simpa using h2
      have hc := op_cells HX.out
      have c_selfp := hc.selfp
      have c_selfn := hc.selfn
      clear hc
      have hal : Below wb.heap.size wb (wb.alloc (.cells #[.string x.self.p, .int .i64 x.self.n] 81)) := (Below.refl _ _).alloc (Nat.le_refl _) _
      have HO : Hid (OwnId (wb.alloc (.cells #[.string x.self.p, .int .i64 x.self.n] 81)) w.heap.size (.slice (some ⟨wb.heap.size, 0, none⟩) 1 1) [x.self]) := World.ownsRow_lit (base := w.heap.size) (e := 81) (size := 2) wb #[.string x.self.p, .int .i64 x.self.n] 1 HF.out.size (by decide) rfl
      have HB := Lib.hid (HF.out.trans (hal.mono HF.out.size))
      clear hal
      go_wp2
      go_ret
      exact ⟨some ⟨wb.heap.size, 0, none⟩, 1, 1, [x.self], rfl, (by show _ = comesO _ x.key; unfold comesO; rw [if_pos (show x.key.kind = 1 ∨ x.key.kind = 2 by first | exact .inl h1 | exact .inr h2)]; rfl), HO.out, HB.out⟩
    · have q2 : (x.kind == 2) = false := by simpa using h2
      have h12 : ¬ (x.key.kind = 1 ∨ x.key.kind = 2) := fun e => e.elim h1 h2
      by_cases h5 : x.kind = 5
      · have q5 : (x.kind == 5) = true := by simpa using h5
        have hv : comesO p.data.toList x.key = rowI p.data.toList x.first x.lines.length := by unfold comesO; rw [if_neg h12, if_pos (show x.key.kind = 5 from h5)]; rfl
        have CR := Lib.hid (idrow_any p x.first x.lines.length wb hf)
        have HV := Lib.hid hv
        have hc := op_cells HX.out
        have c_first := hc.first
        have c_lines := hc.lines
        clear hc hv h5 h12 h1 h2
        go_wp2_with fail
        refine CR.out.mono ?_
        rintro e w1 ⟨A, n, c, l, rfl, hk, ho, hb⟩
        have HB := Lib.hid (HF.out.trans (hb.mono HF.out.size))
        have HK := Lib.hid hk
        have HO := Lib.hid (Rk.Own.lower ho HF.out.size)
        clear hk ho hb CR c_first c_lines
        go_wp2
        go_ret
        exact ⟨A, n, c, l, rfl, by rw [HK.out, HV.out], HO.out, HB.out⟩
      · have q5 : (x.kind == 5) = false := by simpa using h5
        go_wp2
        go_ret
        exact ⟨none, 0, 0, [], rfl, (by show _ = comesO _ x.key; unfold comesO; rw [if_neg h12, if_neg (show ¬ x.key.kind = 5 from h5)]; rfl), Rk.Own.nil _ _, HF.out⟩
set_option maxHeartbeats 4000000 in
set_option maxRecDepth 100000 in
theorem opnamed_any (x : Om) (w : World) (ox : x.Ok w w.heap.size) (hf : x.dels.length ≤ 900000) :
    Calls Tryz.prog 128 #[.agg #[.int .i64 x.kind, .string x.self.p, .int .i64 x.self.n, .string x.parent.p, .int .i64 x.parent.n, .string x.dst.p, .int .i64 x.dst.n, .string x.name, .string x.dname, .string x.left.p, .int .i64 x.left.n, .string x.right.p, .int .i64 x.right.n, .slice x.a1 x.dels.length x.c1, .int .i64 x.first, .slice x.a2 x.lines.length x.c2]] w (IdsLeft w (namedO x.key)) := by
  obtain ⟨hb, hx⟩ := op_box w x
  have HX := Lib.hid hx
  have HF := Lib.hid hb
  have OX := Lib.hid (ox.on hb)
  clear hb hx ox
  go_enter Tryz.func128, Tryz.ntmps128
  go_upto_region 1 with (fail)
  generalize (w.alloc (.cells #[.int .i64 x.kind, .string x.self.p, .int .i64 x.self.n, .string x.parent.p, .int .i64 x.parent.n, .string x.dst.p, .int .i64 x.dst.n, .string x.name, .string x.dname, .string x.left.p, .int .i64 x.left.n, .string x.right.p, .int .i64 x.right.n, .slice x.a1 x.dels.length x.c1, .int .i64 x.first, .slice x.a2 x.lines.length x.c2] 84)) = wb at *
  have c_kind := (op_cells HX.out).kind
  by_cases h1 : x.kind = 1
  · have q1 : (x.kind == 1) = true := by simpa using h1
    have hc := op_cells HX.out
    have c_parentp := hc.parentp
    have c_parentn := hc.parentn
    clear hc
    have hal : Below wb.heap.size wb (wb.alloc (.cells #[.string x.parent.p, .int .i64 x.parent.n] 81)) := (Below.refl _ _).alloc (Nat.le_refl _) _
    have HO : Hid (OwnId (wb.alloc (.cells #[.string x.parent.p, .int .i64 x.parent.n] 81)) w.heap.size (.slice (some ⟨wb.heap.size, 0, none⟩) 1 1) [x.parent]) := World.ownsRow_lit (base := w.heap.size) (e := 81) (size := 2) wb #[.string x.parent.p, .int .i64 x.parent.n] 1 HF.out.size (by decide) rfl
    have HB := Lib.hid (HF.out.trans (hal.mono HF.out.size))
    clear hal
    go_wp2
    go_ret
    exact ⟨some ⟨wb.heap.size, 0, none⟩, 1, 1, [x.parent], rfl, (by show _ = namedO x.key; unfold namedO; rw [if_pos (show x.key.kind = 1 ∨ x.key.kind = 2 by first | exact .inl h1 | exact .inr h2)]; rfl), HO.out, HB.out⟩
  · have q1 : (x.kind == 1) = false := by simpa using h1
    by_cases h2 : x.kind = 2
    · have q2 : (x.kind == 2) = true := by simpa using h2
      have hc := op_cells HX.out
      have c_parentp := hc.parentp
      have c_parentn := hc.parentn
      clear hc
      have hal : Below wb.heap.size wb (wb.alloc (.cells #[.string x.parent.p, .int .i64 x.parent.n] 81)) := (Below.refl _ _).alloc (Nat.le_refl _) _
      have HO : Hid (OwnId (wb.alloc (.cells #[.string x.parent.p, .int .i64 x.parent.n] 81)) w.heap.size (.slice (some ⟨wb.heap.size, 0, none⟩) 1 1) [x.parent]) := World.ownsRow_lit (base := w.heap.size) (e := 81) (size := 2) wb #[.string x.parent.p, .int .i64 x.parent.n] 1 HF.out.size (by decide) rfl
      have HB := Lib.hid (HF.out.trans (hal.mono HF.out.size))
      clear hal
      go_wp2
      go_ret
      exact ⟨some ⟨wb.heap.size, 0, none⟩, 1, 1, [x.parent], rfl, (by show _ = namedO x.key; unfold namedO; rw [if_pos (show x.key.kind = 1 ∨ x.key.kind = 2 by first | exact .inl h1 | exact .inr h2)]; rfl), HO.out, HB.out⟩
    · have q2 : (x.kind == 2) = false := by simpa using h2
      have h12 : ¬ (x.key.kind = 1 ∨ x.key.kind = 2) := fun e => e.elim h1 h2
      by_cases h3 : x.kind = 3
      · have q3 : (x.kind == 3) = true := by simpa using h3
        have hc := op_cells HX.out
        have c_selfp := hc.selfp
        have c_selfn := hc.selfn
        have c_parentp := hc.parentp
        have c_parentn := hc.parentn
        clear hc
        have hal : Below wb.heap.size wb (wb.alloc (.cells #[.string x.self.p, .int .i64 x.self.n, .string x.parent.p, .int .i64 x.parent.n] 81)) := (Below.refl _ _).alloc (Nat.le_refl _) _
        have HO : Hid (OwnId (wb.alloc (.cells #[.string x.self.p, .int .i64 x.self.n, .string x.parent.p, .int .i64 x.parent.n] 81)) w.heap.size (.slice (some ⟨wb.heap.size, 0, none⟩) 2 2) [x.self, x.parent]) := World.ownsRow_lit (base := w.heap.size) (e := 81) (size := 2) wb #[.string x.self.p, .int .i64 x.self.n, .string x.parent.p, .int .i64 x.parent.n] 2 HF.out.size (by decide) rfl
        have HB := Lib.hid (HF.out.trans (hal.mono HF.out.size))
        clear hal
        go_wp2
        go_ret
        exact ⟨some ⟨wb.heap.size, 0, none⟩, 2, 2, [x.self, x.parent], rfl, (by show _ = namedO x.key; unfold namedO; rw [if_neg h12, if_pos (show x.key.kind = 3 from h3)]; rfl), HO.out, HB.out⟩
      · have q3 : (x.kind == 3) = false := by simpa using h3
        by_cases h4 : x.kind = 4
        · have q4 : (x.kind == 4) = true := by simpa using h4
          have hc := op_cells HX.out
          have c_selfp := hc.selfp
          have c_selfn := hc.selfn
          have c_parentp := hc.parentp
          have c_parentn := hc.parentn
          have c_dstp := hc.dstp
          have c_dstn := hc.dstn
          clear hc
          have hal : Below wb.heap.size wb (wb.alloc (.cells #[.string x.self.p, .int .i64 x.self.n, .string x.parent.p, .int .i64 x.parent.n, .string x.dst.p, .int .i64 x.dst.n] 81)) := (Below.refl _ _).alloc (Nat.le_refl _) _
          have HO : Hid (OwnId (wb.alloc (.cells #[.string x.self.p, .int .i64 x.self.n, .string x.parent.p, .int .i64 x.parent.n, .string x.dst.p, .int .i64 x.dst.n] 81)) w.heap.size (.slice (some ⟨wb.heap.size, 0, none⟩) 3 3) [x.self, x.parent, x.dst]) := World.ownsRow_lit (base := w.heap.size) (e := 81) (size := 2) wb #[.string x.self.p, .int .i64 x.self.n, .string x.parent.p, .int .i64 x.parent.n, .string x.dst.p, .int .i64 x.dst.n] 3 HF.out.size (by decide) rfl
          have HB := Lib.hid (HF.out.trans (hal.mono HF.out.size))
          clear hal
          go_wp2
          go_ret
          exact ⟨some ⟨wb.heap.size, 0, none⟩, 3, 3, [x.self, x.parent, x.dst], rfl, (by show _ = namedO x.key; unfold namedO; rw [if_neg h12, if_neg (show ¬ x.key.kind = 3 from h3), if_pos (show x.key.kind = 4 from h4)]; rfl), HO.out, HB.out⟩
        · have q4 : (x.kind == 4) = false := by simpa using h4
          by_cases h5 : x.kind = 5
          · have q5 : (x.kind == 5) = true := by simpa using h5
            have hv : namedO x.key = [x.self.key, x.left.key, x.right.key] ++ ikeys x.dels := by unfold namedO; rw [if_neg h12, if_neg (show ¬ x.key.kind = 3 from h3), if_neg (show ¬ x.key.kind = 4 from h4), if_pos (show x.key.kind = 5 from h5)]; rfl
            have HV := Lib.hid hv
            have hc := op_cells HX.out
            have c_selfp := hc.selfp
            have c_selfn := hc.selfn
            have c_leftp := hc.leftp
            have c_leftn := hc.leftn
            have c_rightp := hc.rightp
            have c_rightn := hc.rightn
            have hal : Below wb.heap.size wb (wb.alloc (.cells #[.string x.self.p, .int .i64 x.self.n, .string x.left.p, .int .i64 x.left.n, .string x.right.p, .int .i64 x.right.n] 81)) := (Below.refl _ _).alloc (Nat.le_refl _) _
            have c_dels := (op_cells (HX.out.on hal)).dels
            have HO : Hid (OwnId (wb.alloc (.cells #[.string x.self.p, .int .i64 x.self.n, .string x.left.p, .int .i64 x.left.n, .string x.right.p, .int .i64 x.right.n] 81)) wb.heap.size (.slice (some ⟨wb.heap.size, 0, none⟩) 3 3) [x.self, x.left, x.right]) := World.ownsRow_lit (base := wb.heap.size) (e := 81) (size := 2) wb #[.string x.self.p, .int .i64 x.self.n, .string x.left.p, .int .i64 x.left.n, .string x.right.p, .int .i64 x.right.n] 3 (Nat.le_refl _) (by decide) rfl
            have HD := Lib.hid (OX.out.on hal)
            have HAL := Lib.hid hal
            obtain ⟨M, hM⟩ : ∃ M, M = [x.self, x.left, x.right].length + x.dels.length := ⟨_, rfl⟩
            have HM := Lib.hid hM
            have hle : [x.self, x.left, x.right].length + x.dels.length ≤ 1000000 := by simp only [List.length_cons, List.length_nil]; omega
            clear hal hc hM hv h1 h2 h3 h4 h5 h12
            go_wp2_with (at_builtin; refine idR.wpList_append rfl _ _ rfl wb.heap.size (.slice (some ⟨wb.heap.size, 0, none⟩) 3 3) [x.self, x.left, x.right] x.dels rfl HO.out x.a1 x.c1 x.dels.length rfl rfl HD.out.room1.1 HD.out.dels HAL.out.size hle M HM.out ?_)
            intro A3 c3 wc ho hg
            have hbc := Rk.Own.app HAL.out HO.out hg (Nat.le_refl _)
            have HB := Lib.hid (HF.out.trans (hbc.mono HF.out.size))
            have HO3 := Lib.hid (Rk.Own.lower ho HF.out.size)
            clear ho hg hbc HO HD HAL HM hle c_dels c_selfp c_selfn c_leftp c_leftn c_rightp c_rightn
            go_wp2
            go_ret
            exact ⟨A3, M, c3, [x.self, x.left, x.right] ++ x.dels, rfl, by rw [HV.out, ikeys, List.map_append]; rfl, HO3.out, HB.out⟩
          · have q5 : (x.kind == 5) = false := by simpa using h5
            go_wp2
            go_ret
            exact ⟨none, 0, 0, [], rfl, (by show _ = namedO x.key; unfold namedO; rw [if_neg h12, if_neg (show ¬ x.key.kind = 3 from h3), if_neg (show ¬ x.key.kind = 4 from h4), if_neg (show ¬ x.key.kind = 5 from h5)]; rfl), Rk.Own.nil _ _, HF.out⟩
/-- Where the first id of nobody stands. -/
def IsNb (l : List Im) (r : Int) : Prop := (∃ k, ∃ hk : k < l.length, r = (k : Int) ∧ (l[k]'hk).key.1 = [] ∧ ∀ j (hj : j < l.length), j < k → l[j].key.1 ≠ []) ∨ (r = -1 ∧ ∀ j (hj : j < l.length), l[j].key.1 ≠ [])
def keepI (x : Im) : Bool := decide (x.key.1 ≠ [])
set_option maxHeartbeats 2000000 in
set_option maxRecDepth 100000 in
theorem nbindex_any (A : Option Addr) (l : List Im) (cap : Nat) (w : World) (hs : Ids w w.heap.size A l) (hn : l.length ≤ 1000000) :
    Calls Tryz.prog 155 #[.slice A l.length cap, .func (.func 129) #[] #[]] w fun e w' => ∃ r : Int, e = .returned (.int .i64 r) ∧ Hid (IsNb l r) ∧ Below w.heap.size w w' := by
  have HS := Lib.hid hs
  clear hs
  go_enter Tryz.func155, Tryz.ntmps155
  go_wp2
  go_loopw [8] (fun i wr => ∃ k : Nat, k ≤ l.length ∧ i = .int .i64 (k : Int) ∧ Hid (∀ j (hj : j < l.length), j < k → l[j].key.1 ≠ []) ∧ Hid (Below w.heap.size w wr)) (fun i _ => l.length - (intOf i).toNat)
  case atStart => exact ⟨0, Nat.zero_le _, rfl, fun j _ h => absurd h (by omega), Below.refl _ _⟩
  case round =>
    obtain ⟨k, hk, rfl, hall, hb⟩ := hrel
    by_cases hlt : k < l.length
    · have hS := HS.out.on hb.out
      obtain ⟨b, off, rfl, bl1, h1, h2⟩ := ids_get hS hlt
      have C := Lib.hid (fun (r : Bool) (hr : decide ((l[k]'hlt).key.1 = []) = r) => opnobody_any (l[k]'hlt) wr r hr)
      by_cases he : l[k].key.1 = []
      · have hres : Hid (IsNb l (k : Int)) := .inl ⟨k, hlt, rfl, he, hall.out⟩
        replace C := Lib.hid (C.out true (decide_eq_true he))
        clear he hall hS
        generalize l[k] = y at *
        go_wp2_with fail
        refine C.out.mono ?_
        rintro e w1 ⟨rfl, hb1⟩
        have HB2 := Lib.hid (hb.out.trans (hb1.mono hb.out.size))
        clear hb1 C h1 h2
        go_wp2
        go_ret
        exact ⟨_, rfl, hres, HB2.out⟩
      · have hnew : Hid (∀ j (hj : j < l.length), j < k + 1 → l[j].key.1 ≠ []) := by
          intro j hj hjk
          by_cases e : j = k
          · subst e; exact he
          · exact hall.out j hj (by omega)
        replace C := Lib.hid (C.out false (decide_eq_false he))
        clear he hall hS
        generalize l[k] = y at h1 h2 C
        go_wp2_with fail
        refine C.out.mono ?_
        rintro e w1 ⟨rfl, hb1⟩
        have HB2 : Hid (Below w.heap.size w w1) := hb.out.trans (hb1.mono hb.out.size)
        clear hb1 C h1 h2
        go_wp2
        go_roundw
        case rel => exact ⟨k + 1, by omega, by go_num, hnew, HB2⟩
        case measure => simp [intOf]; omega
    · obtain rfl : k = l.length := by omega
      have hres : Hid (IsNb l (-1)) := .inr ⟨rfl, fun j hj => hall.out j hj hj⟩
      clear hall
      go_wp2
      go_ret
      exact ⟨_, rfl, hres, hb.out⟩
/-- What DeleteFunc has done up to j: those kept lie ahead of i. -/
structure MidD (fs d : List Im) (i j : Nat) : Prop where
  len : d.length = fs.length
  ij : i < j
  jn : j ≤ fs.length
  low : d.take i = (fs.take j).filter keepI
  high : ∀ t (h : t < d.length) (h2 : t < fs.length), j ≤ t → d[t] = fs[t]
theorem MidD.start {fs : List Im} {k : Nat} (hk : k < fs.length) (he : fs[k].key.1 = []) (hn : ∀ j (hj : j < fs.length), j < k → fs[j].key.1 ≠ []) : MidD fs fs k (k + 1) := by
  refine ⟨rfl, by omega, by omega, ?_, fun _ _ _ _ => rfl⟩
  rw [List.take_succ_eq_append_getElem hk, List.filter_append]
  have e1 : (fs.take k).filter keepI = fs.take k := by
    rw [List.filter_eq_self]
    intro f hf
    obtain ⟨j, hj, rfl⟩ := List.getElem_of_mem hf
    rw [List.length_take] at hj
    rw [List.getElem_take]
    exact decide_eq_true (hn j (by omega) (by omega))
  have e2 : [fs[k]].filter keepI = [] := by simp [keepI, he]
  rw [e1, e2, List.append_nil]
theorem MidD.skip {fs d : List Im} {i j : Nat} (m : MidD fs d i j) (hj : j < fs.length) (he : (fs[j]'hj).key.1 = []) : MidD fs d i (j + 1) := by
  refine ⟨m.len, by have := m.ij; omega, by omega, ?_, fun t h h2 h3 => m.high t h h2 (by omega)⟩
  rw [List.take_succ_eq_append_getElem hj, List.filter_append, m.low]
  have e2 : [fs[j]].filter keepI = [] := by simp [keepI, he]
  rw [e2, List.append_nil]
theorem MidD.keep {fs d : List Im} {i j : Nat} (m : MidD fs d i j) (hj : j < fs.length) (he : (fs[j]'hj).key.1 ≠ []) : MidD fs (d.set i (fs[j]'hj)) (i + 1) (j + 1) := by
  have hi := m.ij
  have hl := m.len
  refine ⟨by rw [List.length_set]; exact m.len, by omega, by omega, ?_, fun t h h2 h3 => ?_⟩
  · have e2 : [fs[j]].filter keepI = [fs[j]] := by simp [keepI, he]
    rw [List.take_succ_eq_append_getElem hj, List.filter_append, ← m.low, e2, List.take_succ_eq_append_getElem (by rw [List.length_set]; omega), List.getElem_set_self]
    congr 1
    rw [List.take_set_of_le (Nat.le_refl _)]
  · rw [List.getElem_set_ne (by omega)]
    rw [List.length_set] at h
    exact m.high t h h2 (by omega)
set_option maxHeartbeats 4000000 in
set_option maxRecDepth 100000 in
theorem nbdelete_any (g cap : Nat) (l : List Im) (w : World) (hblk : idR.Blk w g cap l) (hn : l.length ≤ 1000000) (m : Nat) (hm : m = (l.filter keepI).length) :
    Calls Tryz.prog 127 #[.slice (some ⟨g, 0, none⟩) l.length cap, .func (.func 129) #[] #[]] w fun e w' =>
      e = .returned (.slice (some ⟨g, 0, none⟩) m cap) ∧ idR.Blk w' g cap (l.filter keepI) ∧ w.grownBy w' (some g) := by
  have CI := Lib.hid (nbindex_any (some ⟨g, 0, none⟩) l cap w hblk.row hn)
  have HR := Lib.hid hblk
  have HM := Lib.hid hm
  clear hblk hm
  go_enter Tryz.func127, Tryz.ntmps127
  go_wp2_with fail
  refine CI.out.mono ?_
  rintro e w0 ⟨r, rfl, hr, hb0⟩
  have HR0 := Lib.hid (HR.out.on hb0)
  have HG0 : Hid (w.grownBy w0 (some g)) := Rk.grown_below (Rk.grown_refl w g) hb0
  clear hb0 CI HR
  rcases hr.out with ⟨k, hk, rfl, he, hno⟩ | ⟨rfl, hno⟩
  · have hst := Lib.hid (MidD.start hk he hno)
    have r1 : IntKind.i64.wrap ((k : Int) + 1) = (k : Int) + 1 := IntWalk.i64_in _ (by omega)
    have r2 : ((k : Int) == -1) = false := beq_eq_false_iff_ne.2 (by omega)
    clear he hno hr
    go_wp2
    go_loopw [5, 6] (fun s5 s6 wr => ∃ (i j : Nat) (d : List Im), s5 = .int .i64 (i : Int) ∧ s6 = .int .i64 (j : Int) ∧ j ≤ l.length ∧ Hid (MidD l d i j ∧ idR.Blk wr g cap d ∧ w.grownBy wr (some g))) (fun _ s6 _ => l.length - (intOf s6).toNat)
    case atStart => exact ⟨k, k + 1, l, rfl, by go_num, hst.out.jn, hst.out, HR0.out, HG0.out⟩
    case round =>
      clear HR0 HG0 hst r1 r2
      obtain ⟨i, j, d, rfl, rfl, hjn, HI⟩ := hrel
      by_cases hlt : j < l.length
      · obtain ⟨hm, hrow, hg⟩ := HI.out
        have hij := hm.ij
        have hjd : j < d.length := by rw [hm.len]; exact hlt
        have hid : i < d.length := by omega
        have hdj : d[j] = l[j] := hm.high j hjd hlt (Nat.le_refl _)
        have h1 : wr.cell? ⟨g, j * 2, none⟩ = some (.string d[j].p) := hrow.cell hjd (r := 0) rfl
        have h2 : wr.cell? ⟨g, j * 2 + 1, none⟩ = some (.int .i64 d[j].n) := hrow.cell hjd (r := 1) rfl
        obtain ⟨hal, hF⟩ := id_box wr d[j]
        have CA := fun (b : Bool) (hr : decide ((d[j]'hjd).key.1 = []) = b) => opnobody_any d[j] (wr.alloc (.cells #[.string d[j].p, .int .i64 d[j].n] 81)) b hr
        have HF := Lib.hid hF
        have HA := Lib.hid hal
        have HDJ := Lib.hid hdj
        have HID := Lib.hid hid
        have HRW := Lib.hid hrow
        have HG := Lib.hid hg
        by_cases hp : d[j].key.1 = []
        · have C := Lib.hid (CA true (decide_eq_true hp))
          have HM2 := Lib.hid (hm.skip hlt (by rw [← hdj]; exact hp))
          clear CA hp hm hrow hg hF hal hdj HI
          generalize d[j] = f at *
          go_upto_region 8 with (fail)
          have f0 := id_c0 HF.out
          have f1 := id_c1 HF.out
          generalize (wr.alloc (.cells #[.string f.p, .int .i64 f.n] 81)) = wx at *
          go_wp2_with fail
          refine C.out.mono ?_
          rintro e w2 ⟨rfl, hb2⟩
          have hbb := HA.out.trans (hb2.mono HA.out.size)
          have HN : Hid (MidD l d i (j + 1) ∧ idR.Blk w2 g cap d ∧ w.grownBy w2 (some g)) := ⟨HM2.out, HRW.out.on hbb, Rk.grown_below HG.out hbb⟩
          clear hb2 hbb h1 h2 f0 f1 C HF HA
          go_wp2
          go_roundw
          case rel => exact ⟨i, j + 1, d, rfl, by go_num, by omega, HN.out⟩
          case measure => simp [intOf]; omega
        · have C := Lib.hid (CA false (decide_eq_false hp))
          have HM2 := Lib.hid (hm.keep hlt (by rw [← hdj]; exact hp))
          clear CA hp hm hrow hg hF hal HI hdj
          generalize hdj : d[j] = f at *
          go_upto_region 8 with (fail)
          have f0 := id_c0 HF.out
          have f1 := id_c1 HF.out
          generalize (wr.alloc (.cells #[.string f.p, .int .i64 f.n] 81)) = wx at *
          go_wp2_with fail
          refine C.out.mono ?_
          rintro e w2 ⟨rfl, hb2⟩
          have hbb := HA.out.trans (hb2.mono HA.out.size)
          have hF2 := HF.out.on hb2
          have f0 := id_c0 hF2
          have f1 := id_c1 hF2
          have hR2 := HRW.out.on hbb
          have o0 : w2.cell? ⟨g, i * 2, none⟩ = some (.string d[i].p) := hR2.cell HID.out (r := 0) rfl
          have o1 : w2.cell? ⟨g, i * 2 + 1, none⟩ = some (.int .i64 d[i].n) := hR2.cell HID.out (r := 1) rfl
          have z0 := hR2.fz (i * 2)
          have z1 := hR2.fz (i * 2 + 1)
          have HN : Hid (MidD l (d.set i f) (i + 1) (j + 1) ∧ idR.Blk ((w2.setCell ⟨g, i * 2, none⟩ (.string f.p)).setCell ⟨g, i * 2 + 1, none⟩ (.int .i64 f.n)) g cap (d.set i f) ∧ w.grownBy ((w2.setCell ⟨g, i * 2, none⟩ (.string f.p)).setCell ⟨g, i * 2 + 1, none⟩ (.int .i64 f.n)) (some g)) :=
            ⟨by rw [HDJ.out]; exact HM2.out, hR2.put HID.out f, Rk.grown_both (Rk.grown_below HG.out hbb) (Rk.setCells_grown w2 g (i * 2) [.string f.p, .int .i64 f.n])⟩
          have u0 : (0 : Int) ≤ (i : Int) := by omega
          have u1 : (i : Int) < (l.length : Int) := by omega
          clear hb2 hbb h1 h2 hF2 hR2 hdj HDJ HM2 C HF HA
          generalize d[i].p = y0 at *
          generalize d[i].n = y1 at *
          go_wp2
          go_roundw
          case rel => exact ⟨i + 1, j + 1, d.set i f, by go_num, by go_num, by omega, HN.out⟩
          case measure => simp [intOf]; omega
      · obtain ⟨hm, hrow, hg⟩ := HI.out
        have hjn2 : j = l.length := by omega
        have hij := hm.ij
        have hdl := hm.len
        have hcap := hrow.len
        have hlow := hm.low
        rw [hjn2, List.take_length] at hlow
        have hmi : Hid (m = i) := by show _ = _; rw [HM.out, ← hlow, List.length_take]; omega
        have s1 : ∀ W, (Instr.slice 82 (.slice (some ⟨g, 0, none⟩) l.length cap) (some (.int .i64 (i : Int))) none none).run Tryz.prog W = .ok (.slice (some ⟨g, i * 2, none⟩) (l.length - i) (cap - i)) W := fun W => by
          have h := idR.run_slice (some ⟨g, 0, none⟩) l.length cap i l.length (some (.int .i64 (i : Int))) none W (by omega) (Nat.le_refl _) (by omega) (.inl rfl) (.inr ⟨rfl, rfl⟩)
          rw [if_neg (by omega), Option.map_some, rec_add, Nat.zero_add] at h
          exact h
        have s2 : ∀ W, (Instr.slice 82 (.slice (some ⟨g, 0, none⟩) l.length cap) none (some (.int .i64 (i : Int))) none).run Tryz.prog W = .ok (.slice (some ⟨g, 0, none⟩) i cap) W := fun W => by
          have h := idR.run_slice (some ⟨g, 0, none⟩) l.length cap 0 i none (some (.int .i64 (i : Int))) W (by omega) (by omega) (by omega) (.inr ⟨rfl, rfl⟩) (.inl rfl)
          rw [if_neg (by omega), Option.map_some, rec_add] at h
          exact h
        have hcl := clear_ids wr g cap d hrow i (l.length - i) (cap - i) (by omega) (by omega)
        have hti := hrow.take i (by omega)
        have hl : (d.take i).length = i := by rw [List.length_take]; omega
        have hcd := hti.cleared (Builtin.zeroCells #[.string ⟨#[]⟩, .int .i64 0] (l.length - i)).toList
        rw [hl, hlow] at hcd
        have hgg := Rk.grown_both hg (Rk.setCells_grown wr g (i * 2) (Builtin.zeroCells #[.string ⟨#[]⟩, .int .i64 0] (l.length - i)).toList)
        have HCD := Lib.hid hcd
        have HGG := Lib.hid hgg
        clear hcd hgg hti hl hlow hm hrow hg HI hij hdl hcap hjn2
        have hjn3 : ¬ (j : Int) < (l.length : Int) := by omega
        go_wp2
        go_ret
        rw [hmi.out]
        exact ⟨rfl, HCD.out, HGG.out⟩
  · have hfl : l.filter keepI = l := by
      rw [List.filter_eq_self]
      intro f hf
      obtain ⟨j, hj, rfl⟩ := List.getElem_of_mem hf
      exact decide_eq_true (hno j hj)
    have hme : Hid (m = l.length) := by show _ = _; rw [HM.out, hfl]
    have HFL := Lib.hid hfl
    clear hfl hno hr
    go_wp2
    go_ret
    rw [hme.out, HFL.out]
    exact ⟨rfl, HR0.out, HG0.out⟩
set_option maxHeartbeats 2000000 in
set_option maxRecDepth 100000 in
theorem nbdelete_nil (w : World) :
    Calls Tryz.prog 127 #[.slice none 0 0, .func (.func 129) #[] #[]] w fun e w' => e = .returned (.slice none 0 0) ∧ Below w.heap.size w w' := by
  have CI := Lib.hid (nbindex_any none [] 0 w Rk.Row.nil (Nat.zero_le _))
  go_enter Tryz.func127, Tryz.ntmps127
  go_wp2_with fail
  refine CI.out.mono ?_
  rintro e w0 ⟨r, rfl, hr, hb0⟩
  have hr1 : r = -1 := by
    rcases hr.out with ⟨k, hk, _⟩ | ⟨rfl, _⟩
    · exact absurd hk (by simp)
    · rfl
  subst hr1
  have HB := Lib.hid hb0
  clear hr hb0 CI
  go_wp2
  go_ret
  exact ⟨rfl, HB.out⟩
theorem keep_keys (l : List Im) : ikeys (l.filter keepI) = (ikeys l).filter fun k => decide (k.1 ≠ []) := by
  unfold ikeys
  rw [List.filter_map]
  rfl
/-- DeleteFunc of a row of the call's own. -/
theorem nbdel_own (v : Value) (l : List Im) (B : Nat) (w : World) (hB : B ≤ w.heap.size) (ho : OwnId w B v l) (hn : l.length ≤ 1000000) :
    Calls Tryz.prog 127 #[v, .func (.func 129) #[] #[]] w fun e w' => ∃ A n c, e = .returned (.slice A n c) ∧ OwnId w' B (.slice A n c) (l.filter keepI) ∧ Below B w w' := by
  rcases Rk.own_cases ho with ⟨rfl, rfl⟩ | ⟨g, cap, rfl, hg, hb⟩
  · refine (nbdelete_nil w).mono ?_
    rintro e w' ⟨rfl, hb⟩
    exact ⟨none, 0, 0, rfl, Rk.Own.nil _ _, hb.mono hB⟩
  · refine (nbdelete_any g cap l w hb hn _ rfl).mono ?_
    rintro e w' ⟨rfl, h1, h2⟩
    exact ⟨_, _, _, rfl, h1.own hg, (Below.refl B w).grown h2 hB fun k hk => by simp only [Option.some.injEq] at hk; omega⟩
set_option maxHeartbeats 2000000 in
set_option maxRecDepth 100000 in
theorem opidset_any (x : Om) (w : World) (ox : x.Ok w w.heap.size) (hf : x.dels.length ≤ 90000) :
    Calls Tryz.prog 102 #[.agg #[.int .i64 x.kind, .string x.self.p, .int .i64 x.self.n, .string x.parent.p, .int .i64 x.parent.n, .string x.dst.p, .int .i64 x.dst.n, .string x.name, .string x.dname, .string x.left.p, .int .i64 x.left.n, .string x.right.p, .int .i64 x.right.n, .slice x.a1 x.dels.length x.c1, .int .i64 x.first, .slice x.a2 x.lines.length x.c2]] w (IdsLeft w (idsO x.key)) := by
  obtain ⟨hb, hx⟩ := op_box w x
  have HX := Lib.hid hx
  have HF := Lib.hid hb
  have CN := Lib.hid (opnamed_any x _ (ox.on hb) (by omega))
  have hlen : (namedO x.key).length ≤ 90003 := by
    have h1 : x.key.dels.length = x.dels.length := ikeys_len x.dels
    unfold namedO
    split
    · simp
    · split
      · simp
      · split
        · simp
        · split
          · rw [List.length_append]; simp; omega
          · simp
  have HL := Lib.hid hlen
  clear hb hx ox hlen
  go_enter Tryz.func102, Tryz.ntmps102
  go_upto_region 1 with (fail)
  generalize (w.alloc (.cells #[.int .i64 x.kind, .string x.self.p, .int .i64 x.self.n, .string x.parent.p, .int .i64 x.parent.n, .string x.dst.p, .int .i64 x.dst.n, .string x.name, .string x.dname, .string x.left.p, .int .i64 x.left.n, .string x.right.p, .int .i64 x.right.n, .slice x.a1 x.dels.length x.c1, .int .i64 x.first, .slice x.a2 x.lines.length x.c2] 84)) = wb at *
  have hc := op_cells HX.out
  have c_kind := hc.kind
  have c_selfp := hc.selfp
  have c_selfn := hc.selfn
  have c_parentp := hc.parentp
  have c_parentn := hc.parentn
  have c_dstp := hc.dstp
  have c_dstn := hc.dstn
  have c_name := hc.name
  have c_dname := hc.dname
  have c_leftp := hc.leftp
  have c_leftn := hc.leftn
  have c_rightp := hc.rightp
  have c_rightn := hc.rightn
  have c_dels := hc.dels
  have c_first := hc.first
  have c_lines := hc.lines
  go_wp2_with fail
  refine CN.out.mono ?_
  rintro e w1 ⟨A, n, c, l, rfl, hk, ho, hb⟩
  have hll : l.length ≤ 90003 := by have h1 := HL.out; rw [← hk, ikeys_len] at h1; exact h1
  have HK := Lib.hid hk
  have HB1 := Lib.hid (HF.out.trans (hb.mono HF.out.size))
  have CD := Lib.hid (nbdel_own (.slice A n c) l wb.heap.size w1 hb.size ho (by omega))
  clear hk ho hb CN HX HL hc c_kind c_selfp c_selfn c_parentp c_parentn c_dstp c_dstn c_name c_dname c_leftp c_leftn c_rightp c_rightn c_dels c_first c_lines
  go_wp2_with fail
  refine CD.out.mono ?_
  rintro e w2 ⟨A2, n2, c2, rfl, ho2, hb2⟩
  have hp := ho2.parts
  obtain rfl := hp.1
  have hfl : (l.filter keepI).length ≤ 90003 := Nat.le_trans (List.length_filter_le _ _) hll
  have HB2 := Lib.hid (HB1.out.trans (hb2.mono HF.out.size))
  have CS := Lib.hid (idset_any A2 (l.filter keepI) c2 w2 hp.2.1 hp.2.2.1 (by omega))
  clear ho2 hb2 hp hfl CD hll
  go_wp2_with fail
  refine CS.out.mono ?_
  rintro e w3 ⟨A3, n3, c3, l3, rfl, hk3, ho3, hb3⟩
  have HB3 := Lib.hid (HB2.out.trans (hb3.mono HB2.out.size))
  have HK3 : Hid (ikeys l3 = idsO x.key) := by show _ = _; rw [hk3, keep_keys, HK.out]; rfl
  have HO3 := Lib.hid (Rk.Own.lower ho3 HB2.out.size)
  clear hk3 ho3 hb3 CS
  go_wp2
  go_ret
  exact ⟨A3, n3, c3, l3, rfl, HK3.out, HO3.out, HB3.out⟩
end Go.Proofs.YtifkpelcdihdoaaGreatDoor
