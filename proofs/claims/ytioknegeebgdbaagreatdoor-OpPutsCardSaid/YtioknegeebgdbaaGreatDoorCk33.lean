/- OpPuts: the bytes of any operation. -/
import Derived.BigQuiet
import Derived.Deep.QuietTactic
import Derived.Handy
import Derived.Test.YtioknegeebgdbaaGreatDoorCk29
import Derived.Test.YtioknegeebgdbaaGreatDoorCk32
namespace Go.Proofs.YtioknegeebgdbaaGreatDoor
open Go.RowKit
set_option linter.unusedVariables false

theorem sz_lt {x : Om} (h : x.Lt) (k : x.In) : x.Sz := by
  have hl := light3B_len h.lines
  rw [toBs_len] at hl
  have ha := h.lines
  unfold light3B at ha
  simp only [Bool.and_eq_true, List.all_eq_true, decide_eq_true_eq] at ha
  exact ⟨by have := h.self; omega, by have := h.parent; omega, by have := h.dst; omega, by have := h.left; omega, by have := h.right; omega, by have := h.name; omega, by have := h.dname; omega, by have := h.few; omega, fun i hi => by have := h.dels i hi; omega, by omega, fun l hl => by
    have h1 := ha.1 (toB l) (List.mem_map.2 ⟨l, hl, rfl⟩)
    rw [toB_size] at h1
    omega⟩
theorem ops_two (w : World) (x q : Om) (hx : x.Ok w w.heap.size) (hq : q.Ok w w.heap.size) : Below w.heap.size w (w.alloc (.cells #[.int .i64 x.kind, .string x.self.p, .int .i64 x.self.n, .string x.parent.p, .int .i64 x.parent.n, .string x.dst.p, .int .i64 x.dst.n, .string x.name, .string x.dname, .string x.left.p, .int .i64 x.left.n, .string x.right.p, .int .i64 x.right.n, .slice x.a1 x.dels.length x.c1, .int .i64 x.first, .slice x.a2 x.lines.length x.c2, .int .i64 q.kind, .string q.self.p, .int .i64 q.self.n, .string q.parent.p, .int .i64 q.parent.n, .string q.dst.p, .int .i64 q.dst.n, .string q.name, .string q.dname, .string q.left.p, .int .i64 q.left.n, .string q.right.p, .int .i64 q.right.n, .slice q.a1 q.dels.length q.c1, .int .i64 q.first, .slice q.a2 q.lines.length q.c2] 27)) ∧ Ops (w.alloc (.cells #[.int .i64 x.kind, .string x.self.p, .int .i64 x.self.n, .string x.parent.p, .int .i64 x.parent.n, .string x.dst.p, .int .i64 x.dst.n, .string x.name, .string x.dname, .string x.left.p, .int .i64 x.left.n, .string x.right.p, .int .i64 x.right.n, .slice x.a1 x.dels.length x.c1, .int .i64 x.first, .slice x.a2 x.lines.length x.c2, .int .i64 q.kind, .string q.self.p, .int .i64 q.self.n, .string q.parent.p, .int .i64 q.parent.n, .string q.dst.p, .int .i64 q.dst.n, .string q.name, .string q.dname, .string q.left.p, .int .i64 q.left.n, .string q.right.p, .int .i64 q.right.n, .slice q.a1 q.dels.length q.c1, .int .i64 q.first, .slice q.a2 q.lines.length q.c2] 27)) (w.alloc (.cells #[.int .i64 x.kind, .string x.self.p, .int .i64 x.self.n, .string x.parent.p, .int .i64 x.parent.n, .string x.dst.p, .int .i64 x.dst.n, .string x.name, .string x.dname, .string x.left.p, .int .i64 x.left.n, .string x.right.p, .int .i64 x.right.n, .slice x.a1 x.dels.length x.c1, .int .i64 x.first, .slice x.a2 x.lines.length x.c2, .int .i64 q.kind, .string q.self.p, .int .i64 q.self.n, .string q.parent.p, .int .i64 q.parent.n, .string q.dst.p, .int .i64 q.dst.n, .string q.name, .string q.dname, .string q.left.p, .int .i64 q.left.n, .string q.right.p, .int .i64 q.right.n, .slice q.a1 q.dels.length q.c1, .int .i64 q.first, .slice q.a2 q.lines.length q.c2] 27)).heap.size (some ⟨w.heap.size, 0, none⟩) [x, q] := by
  have HO : opR.Own (w.alloc (.cells #[.int .i64 x.kind, .string x.self.p, .int .i64 x.self.n, .string x.parent.p, .int .i64 x.parent.n, .string x.dst.p, .int .i64 x.dst.n, .string x.name, .string x.dname, .string x.left.p, .int .i64 x.left.n, .string x.right.p, .int .i64 x.right.n, .slice x.a1 x.dels.length x.c1, .int .i64 x.first, .slice x.a2 x.lines.length x.c2, .int .i64 q.kind, .string q.self.p, .int .i64 q.self.n, .string q.parent.p, .int .i64 q.parent.n, .string q.dst.p, .int .i64 q.dst.n, .string q.name, .string q.dname, .string q.left.p, .int .i64 q.left.n, .string q.right.p, .int .i64 q.right.n, .slice q.a1 q.dels.length q.c1, .int .i64 q.first, .slice q.a2 q.lines.length q.c2] 27)) w.heap.size (.slice (some ⟨w.heap.size, 0, none⟩) 2 2) [x, q] := World.ownsRow_lit (base := w.heap.size) (e := 27) (size := 16) w #[.int .i64 x.kind, .string x.self.p, .int .i64 x.self.n, .string x.parent.p, .int .i64 x.parent.n, .string x.dst.p, .int .i64 x.dst.n, .string x.name, .string x.dname, .string x.left.p, .int .i64 x.left.n, .string x.right.p, .int .i64 x.right.n, .slice x.a1 x.dels.length x.c1, .int .i64 x.first, .slice x.a2 x.lines.length x.c2, .int .i64 q.kind, .string q.self.p, .int .i64 q.self.n, .string q.parent.p, .int .i64 q.parent.n, .string q.dst.p, .int .i64 q.dst.n, .string q.name, .string q.dname, .string q.left.p, .int .i64 q.left.n, .string q.right.p, .int .i64 q.right.n, .slice q.a1 q.dels.length q.c1, .int .i64 q.first, .slice q.a2 q.lines.length q.c2] 2 (Nat.le_refl _) (by decide) rfl
  have hb : Below w.heap.size w (w.alloc (.cells #[.int .i64 x.kind, .string x.self.p, .int .i64 x.self.n, .string x.parent.p, .int .i64 x.parent.n, .string x.dst.p, .int .i64 x.dst.n, .string x.name, .string x.dname, .string x.left.p, .int .i64 x.left.n, .string x.right.p, .int .i64 x.right.n, .slice x.a1 x.dels.length x.c1, .int .i64 x.first, .slice x.a2 x.lines.length x.c2, .int .i64 q.kind, .string q.self.p, .int .i64 q.self.n, .string q.parent.p, .int .i64 q.parent.n, .string q.dst.p, .int .i64 q.dst.n, .string q.name, .string q.dname, .string q.left.p, .int .i64 q.left.n, .string q.right.p, .int .i64 q.right.n, .slice q.a1 q.dels.length q.c1, .int .i64 q.first, .slice q.a2 q.lines.length q.c2] 27)) := (Below.refl _ _).alloc (Nat.le_refl _) _
  refine ⟨hb, HO.parts.2.1, fun y hy => ?_⟩
  have e : y = x ∨ y = q := by simpa using hy
  rcases e with rfl | rfl
  · exact hx.on hb
  · exact hq.on hb
theorem putO_few {x : Om} (h : x.Lt) (hm : mayO x.key = true) : (putO x.key).length ≤ 100000 := by
  have o := op_ok hm
  obtain ⟨la, lb⟩ := lines_few o.lines
  have hl := light3B_len h.lines
  rw [toBs_len] at hl
  have t := texts_size x.lines lb
  have u := textsK_len (ikeys x.dels)
  have e1 : x.key.name.length = x.name.size := bytes_len x.name
  have e2 : x.key.dname.length = x.dname.size := bytes_len x.dname
  have e3 : (ikeys x.dels).length = x.dels.length := ikeys_len x.dels
  have h1 := h.name
  have h2 := h.dname
  have h3 := h.few
  have n1 := numB_len x.key.kind.toNat
  have n2 := numB_len x.key.first.toNat
  have n3 := numB_len ((ikeys x.dels).map textK).length
  have n4 := numB_len x.lines.length
  have t1 := textB_len (textK x.key.self)
  have t2 := textB_len (textK x.key.parent)
  have t3 := textB_len (textK x.key.dst)
  have t4 := textB_len (textK x.key.left)
  have t5 := textB_len (textK x.key.right)
  have t6 := textB_len x.key.name
  have t7 := textB_len x.key.dname
  have k1 := textK_short x.key.self
  have k2 := textK_short x.key.parent
  have k3 := textK_short x.key.dst
  have k4 := textK_short x.key.left
  have k5 := textK_short x.key.right
  have d1 : (listB (x.key.dels.map textK)).length = (numB ((ikeys x.dels).map textK).length).length + (textsB ((ikeys x.dels).map textK)).length := by rw [show listB (x.key.dels.map textK) = numB ((ikeys x.dels).map textK).length ++ textsB ((ikeys x.dels).map textK) from rfl, List.length_append]
  have d2 : (listB x.key.lines).length = (numB x.lines.length).length + (textsB x.lines).length := by rw [show listB x.key.lines = numB x.lines.length ++ textsB x.lines from rfl, List.length_append]
  unfold putO
  simp only [List.length_append, List.length_nil]
  omega
theorem got_put {x z : Om} {er : Int} (hm : mayO x.key = true) (h : GotK (toB (putO x.key)) z er) : er = 0 ∧ z.key = x.key := by
  have e : er = 0 := Decidable.byContradiction fun hne => (h.2 hne).2 _ hm rfl
  obtain ⟨h1, h2⟩ := h.1 e
  refine ⟨e, putO_inj h1 hm ?_⟩
  have h3 := congrArg (fun b : ByteArray => b.data.toList) h2
  simpa [toB_list] using h3
theorem yields_load_op {ops : Array Oper} {S : World → Prop} {o : Oper} {a : Act} (hw : Region.wanted o (yielded ops a.tmps) = true) (x : Operand) (ho : o.op = .load 27 x) (g : Nat) (z : Om) (hx : a.eval x = .pointer (some ⟨g, 0, none⟩)) (hz : ∀ W, S W → OpAt W g z) :
    YieldsIf Tryz.prog ops S o (.agg #[.int .i64 z.kind, .string z.self.p, .int .i64 z.self.n, .string z.parent.p, .int .i64 z.parent.n, .string z.dst.p, .int .i64 z.dst.n, .string z.name, .string z.dname, .string z.left.p, .int .i64 z.left.n, .string z.right.p, .int .i64 z.right.n, .slice z.a1 z.dels.length z.c1, .int .i64 z.first, .slice z.a2 z.lines.length z.c2]) a :=
  Or.inl ⟨hw, fun W hW => by
    unfold execOp
    simp only [ho, hx, Instr.loadAt, Instr.sureAddr, Sem.run_bind, Sem.run_pure, Result.andThen_ok, load_op (hz W hW)]
    try rfl⟩
theorem wpList_load_opw {ops : Array Oper} {rest : List Oper} {op : Oper} {a : Act} {w : World} {Q : Exit → Act → World → Prop} (x : Operand) (g : Nat) (z : Om) (hz : OpAt w g z) (ho : op.op = .load 27 x) (hw : Region.wanted op (yielded ops a.tmps) = true)
    (hx : a.eval x = .pointer (some ⟨g, 0, none⟩)) (h : wpList Tryz.prog ops Q rest (a.put op.dst z.val) w) : wpList Tryz.prog ops Q (op :: rest) a w :=
  wpList_step fun K hK => by
    simp only [hw, if_true]
    exact wp_load_mid 27 x ho g 0 hx z.cells _ (fun j v hv => by rw [Nat.zero_add]; exact hz.cell hv) Tryz.underlying27 rfl sized_op (hK _ _ h)
set_option maxHeartbeats 8000000 in
set_option maxRecDepth 100000 in
theorem opputs_any (x q : Om) (w : World) (ox : x.Ok w w.heap.size) (oq : q.Ok w w.heap.size) (ix : x.In) (iq : q.In) (hT : Tabs w) (hN : Nums w) : Calls Tryz.prog 3 #[x.val, q.val] w fun e w' => e = .returned (.bool true) ∧ Below w.heap.size w w' := by
  have HAW := Lib.hid (fun W (hT : Tabs W) (hN : Nums W) => opawake_any W hT hN)
  obtain ⟨hbx, hcx⟩ := op_box w x
  obtain ⟨hbq, hcq⟩ := op_box (w.alloc (.cells #[.int .i64 x.kind, .string x.self.p, .int .i64 x.self.n, .string x.parent.p, .int .i64 x.parent.n, .string x.dst.p, .int .i64 x.dst.n, .string x.name, .string x.dname, .string x.left.p, .int .i64 x.left.n, .string x.right.p, .int .i64 x.right.n, .slice x.a1 x.dels.length x.c1, .int .i64 x.first, .slice x.a2 x.lines.length x.c2] 27)) q
  have hb2 := hbx.trans (hbq.mono hbx.size)
  have HX := Lib.hid (hcx.on hbq)
  have HQ := Lib.hid hcq
  rw [show (w.alloc (.cells #[.int .i64 x.kind, .string x.self.p, .int .i64 x.self.n, .string x.parent.p, .int .i64 x.parent.n, .string x.dst.p, .int .i64 x.dst.n, .string x.name, .string x.dname, .string x.left.p, .int .i64 x.left.n, .string x.right.p, .int .i64 x.right.n, .slice x.a1 x.dels.length x.c1, .int .i64 x.first, .slice x.a2 x.lines.length x.c2] 27)).heap.size = w.heap.size + 1 by simp] at HQ
  have OX := Lib.hid (ox.on hb2)
  have OQ := Lib.hid (oq.on hb2)
  have HT := Lib.hid (Tabs.on hT hb2)
  have HN := Lib.hid (hN.on hb2)
  have HB := Lib.hid hb2
  unfold Om.val Om.cells
  clear hbx hcx hbq hcq hb2 hT hN ox oq
  go_enter Tryz.func3, Tryz.ntmps3
  go_upto_region 1 with (fail)
  generalize ((w.alloc (.cells #[.int .i64 x.kind, .string x.self.p, .int .i64 x.self.n, .string x.parent.p, .int .i64 x.parent.n, .string x.dst.p, .int .i64 x.dst.n, .string x.name, .string x.dname, .string x.left.p, .int .i64 x.left.n, .string x.right.p, .int .i64 x.right.n, .slice x.a1 x.dels.length x.c1, .int .i64 x.first, .slice x.a2 x.lines.length x.c2] 27)).alloc (.cells #[.int .i64 q.kind, .string q.self.p, .int .i64 q.self.n, .string q.parent.p, .int .i64 q.parent.n, .string q.dst.p, .int .i64 q.dst.n, .string q.name, .string q.dname, .string q.left.p, .int .i64 q.left.n, .string q.right.p, .int .i64 q.right.n, .slice q.a1 q.dels.length q.c1, .int .i64 q.first, .slice q.a2 q.lines.length q.c2] 27)) = wb at *
  generalize hgx : w.heap.size = gx at *
  generalize hgq : gx + 1 = gq at *
  obtain ⟨hL, hOps⟩ := ops_two wb x q OX.out OQ.out
  have HL := Lib.hid hL
  have CLT := Lib.hid (light12_any _ [x, q] 2 _ hOps (fun y hy => by
    have e : y = x ∨ y = q := by simpa using hy
    rcases e with rfl | rfl
    · exact ix
    · exact iq) (by simp))
  have IX := Lib.hid ix
  have IQ := Lib.hid iq
  have HGX := Lib.hid hgx
  have HGQ := Lib.hid hgq
  clear hL hOps ix iq hgx hgq
  generalize (Value.agg #[.int .i64 x.kind, .string x.self.p, .int .i64 x.self.n, .string x.parent.p, .int .i64 x.parent.n, .string x.dst.p, .int .i64 x.dst.n, .string x.name, .string x.dname, .string x.left.p, .int .i64 x.left.n, .string x.right.p, .int .i64 x.right.n, .slice x.a1 x.dels.length x.c1, .int .i64 x.first, .slice x.a2 x.lines.length x.c2]) = vx
  generalize (Value.agg #[.int .i64 q.kind, .string q.self.p, .int .i64 q.self.n, .string q.parent.p, .int .i64 q.parent.n, .string q.dst.p, .int .i64 q.dst.n, .string q.name, .string q.dname, .string q.left.p, .int .i64 q.left.n, .string q.right.p, .int .i64 q.right.n, .slice q.a1 q.dels.length q.c1, .int .i64 q.first, .slice q.a2 q.lines.length q.c2]) = vq
  go_wp2_with (first | ((with_reducible refine wpList_load_opw (.tmp 2) gx x HX.out ?_ ?_ ?_ ?_); rfl; rfl; rfl; simp only [Act.put, List.setIfInBounds_toArray, List.set_cons_zero, List.set_cons_succ, Om.val, Om.cells]) | ((with_reducible refine wpList_load_opw (.tmp 3) gq q HQ.out ?_ ?_ ?_ ?_); rfl; rfl; rfl; simp only [Act.put, List.setIfInBounds_toArray, List.set_cons_zero, List.set_cons_succ, Om.val, Om.cells]))
  refine CLT.out.mono ?_
  rintro e w1 ⟨r, rfl, hlt, hb0⟩
  have hb := HL.out.trans (hb0.mono HL.out.size)
  have HLT := Lib.hid hlt.out
  replace HB := Lib.hid (HB.out.trans (hb.mono (by have h := HB.out.size; rw [HGX.out] at h; exact h)))
  replace HX := Lib.hid (HX.out.on hb)
  replace HQ := Lib.hid (HQ.out.on hb)
  replace OX := Lib.hid (OX.out.on hb)
  replace OQ := Lib.hid (OQ.out.on hb)
  replace HT := Lib.hid (Tabs.on HT.out hb)
  replace HN := Lib.hid (HN.out.on hb)
  clear hlt hb0 hb CLT HL
  generalize (Value.agg #[.int .i64 x.kind, .string x.self.p, .int .i64 x.self.n, .string x.parent.p, .int .i64 x.parent.n, .string x.dst.p, .int .i64 x.dst.n, .string x.name, .string x.dname, .string x.left.p, .int .i64 x.left.n, .string x.right.p, .int .i64 x.right.n, .slice x.a1 x.dels.length x.c1, .int .i64 x.first, .slice x.a2 x.lines.length x.c2]) = vx2
  generalize (Value.agg #[.int .i64 q.kind, .string q.self.p, .int .i64 q.self.n, .string q.parent.p, .int .i64 q.parent.n, .string q.dst.p, .int .i64 q.dst.n, .string q.name, .string q.dname, .string q.left.p, .int .i64 q.left.n, .string q.right.p, .int .i64 q.right.n, .slice q.a1 q.dels.length q.c1, .int .i64 q.first, .slice q.a2 q.lines.length q.c2]) = vq2
  cases r
  · go_wp2_with fail
    refine (HAW.out _ HT.out HN.out).mono ?_
    rintro e w2 ⟨rfl, hb⟩
    have HF := Lib.hid (HB.out.trans (hb.mono (by have h := HB.out.size; rw [HGX.out] at h; exact h)))
    clear hb HAW HT HN HX HQ OX OQ
    go_wp2
    go_ret
    exact ⟨rfl, by rw [HGX.out]; exact HF.out⟩
  · have SX := Lib.hid (sz_lt (HLT.out rfl x (by simp)) IX.out)
    have SQ := Lib.hid (sz_lt (HLT.out rfl q (by simp)) IQ.out)
    have LX := Lib.hid (HLT.out rfl x (by simp))
    clear HLT IX IQ
    have CP : Hid (Calls Tryz.prog 7 #[x.val] w1 fun e w' => (∃ s er, e = .returned (.tuple #[.string s, .int .i64 er]) ∧ Hid ((mayO x.key = true → s = toB (putO x.key) ∧ er = 0) ∧ (mayO x.key = false → s = ⟨#[]⟩ ∧ er = 2))) ∧ Below w1.heap.size w1 w') := by
      cases hm : mayO x.key
      · refine (opput_no x w1 OX.out SX.out HT.out hm).mono ?_
        rintro e w' ⟨rfl, hb⟩
        exact ⟨⟨_, _, rfl, Lib.hid ⟨fun h => (by cases h), fun _ => ⟨rfl, rfl⟩⟩⟩, hb⟩
      · refine (opput_yes x w1 OX.out SX.out HT.out HN.out hm).mono ?_
        rintro e w' ⟨rfl, hb⟩
        exact ⟨⟨_, _, rfl, Lib.hid ⟨fun _ => ⟨rfl, rfl⟩, fun h => (by cases h)⟩⟩, hb⟩
    go_wp2_with ((with_reducible refine wpList_load_opw (.tmp 2) gx x HX.out ?_ ?_ ?_ ?_); rfl; rfl; rfl; simp only [Act.put, List.setIfInBounds_toArray, List.set_cons_zero, List.set_cons_succ])
    refine CP.out.mono ?_
    rintro e w2 ⟨⟨s, er, rfl, hsr⟩, hb⟩
    have HSR := Lib.hid hsr.out
    replace HB := Lib.hid (HB.out.trans (hb.mono (by have h := HB.out.size; rw [HGX.out] at h; exact h)))
    replace HX := Lib.hid (HX.out.on hb)
    replace HQ := Lib.hid (HQ.out.on hb)
    replace OX := Lib.hid (OX.out.on hb)
    replace OQ := Lib.hid (OQ.out.on hb)
    replace HT := Lib.hid (Tabs.on HT.out hb)
    replace HN := Lib.hid (HN.out.on hb)
    clear hsr hb CP
    obtain ⟨m, hm⟩ : ∃ m, mayO x.key = m := ⟨_, rfl⟩
    have HM := Lib.hid hm
    clear hm
    have CM : Hid (Calls Tryz.prog 8 #[x.val] w2 fun e w' => e = .returned (.bool m) ∧ Below w2.heap.size w2 w') := by
      have h := refmay_any x w2 OX.out SX.out HT.out
      rw [HM.out] at h
      exact h
    go_wp2_with ((with_reducible refine wpList_load_opw (.tmp 2) gx x HX.out ?_ ?_ ?_ ?_); rfl; rfl; rfl; simp only [Act.put, List.setIfInBounds_toArray, List.set_cons_zero, List.set_cons_succ])
    refine CM.out.mono ?_
    rintro e w3 ⟨rfl, hb⟩
    replace HB := Lib.hid (HB.out.trans (hb.mono (by have h := HB.out.size; rw [HGX.out] at h; exact h)))
    replace HX := Lib.hid (HX.out.on hb)
    replace HQ := Lib.hid (HQ.out.on hb)
    replace OX := Lib.hid (OX.out.on hb)
    replace OQ := Lib.hid (OQ.out.on hb)
    replace HT := Lib.hid (Tabs.on HT.out hb)
    replace HN := Lib.hid (HN.out.on hb)
    clear hb CM
    have hrm : ((if mayO x.key = true then (0 : Int) else 2) == 0) = m := by rw [HM.out]; cases m <;> rfl
    obtain ⟨rc, hrc⟩ : ∃ rc : Int, (if mayO x.key = true then (0 : Int) else 2) = rc := ⟨_, rfl⟩
    have HRC := Lib.hid hrc
    have q1 : (rc == 0) = m := by rw [← hrc]; exact hrm
    obtain ⟨r, hr⟩ : ∃ r : Bool, decide (x.key = q.key) = r := ⟨_, rfl⟩
    have HSM := Lib.hid hr
    have HSN : Hid (decide (okeys [x] = okeys [q]) = r) := by rw [← hr]; show decide ([x.key] = [q.key]) = _; simp
    clear hrm hrc hr
    go_upto_region 5 with (fail)
    generalize x.val = vx3
    go_cut [38] from 23 to 38 (fun v wx => v = .bool false ∧ Hid (Below w3.heap.size w3 wx))
    case first =>
      have HDR : Hid (Below w3.heap.size w3 w3.drew) := (Below.refl _ _).drew
      refine wp_region_noPanic ?_
      refine wp_region_held_drew (S := fun W => Below w3.heap.size w3 W) (by kernel_rfl) HDR.out (fun hHeld => ?_)
      refine wpAnyH_take (i := 0) (oi := { dst := some 23, op := _, type := _, pos := _, after := _, guard := _ }) (v := .agg #[.int .i64 x.kind, .string x.self.p, .int .i64 x.self.n, .string x.parent.p, .int .i64 x.parent.n, .string x.dst.p, .int .i64 x.dst.n, .string x.name, .string x.dname, .string x.left.p, .int .i64 x.left.n, .string x.right.p, .int .i64 x.right.n, .slice x.a1 x.dels.length x.c1, .int .i64 x.first, .slice x.a2 x.lines.length x.c2]) rfl (by kernel_rfl) (by kernel_rfl) (by kernel_rfl) (fun _ _ _ h => h) (yields_load_op (by rfl) (.tmp 2) rfl gx x rfl (fun W hW => HX.out.on hW)) (by assumption) ?_
      try simp only [Act.put, List.setIfInBounds_toArray, List.set_cons_zero, List.set_cons_succ]
      refine wpAnyH_take (i := 3) (oi := { dst := some 26, op := _, type := _, pos := _, after := _, guard := _ }) (v := .bool m) rfl (by kernel_rfl) (by kernel_rfl) (by kernel_rfl) (fun _ _ _ h => h) (Or.inl ⟨by rfl, fun w' hSw => ?_⟩) (by assumption) ?_
      · ((try dsimp only at hSw); go_simp)
      try simp only [Act.put, List.setIfInBounds_toArray, List.set_cons_zero, List.set_cons_succ]
      have XB0 := Lib.hid HDR.out
      generalize hwD : w3.drew = wD at *
      clear hwD HDR
      refine wpAnyH_ready (rs := [1]) (by kernel_rfl) (by simp) ?_
      refine AllReadyH.cons rfl (fun K hK => ?_) AllReadyH.nil
      go_simp
      go_at_call 9
      refine (opcheckr_any x _ (OX.out.on XB0.out) SX.out (Tabs.on HT.out XB0.out) rc HRC.out).mono ?_
      rintro e wk ⟨rfl, hb⟩
      have XK := Lib.hid (XB0.out.trans (hb.mono XB0.out.size))
      clear hb
      refine hK.out _ _ XK.out (fun hHeld1 => ?_)
      clear hK K hHeld XB0
      try simp only [Act.put, List.setIfInBounds_toArray, List.set_cons_zero, List.set_cons_succ]
      refine wpAnyH_take (i := 2) (oi := { dst := some 25, op := _, type := _, pos := _, after := _, guard := _ }) (v := .bool m) rfl (by kernel_rfl) (by kernel_rfl) (by kernel_rfl) (fun _ _ _ h => h) (Or.inl ⟨by rfl, fun w' hSw => ?_⟩) (by assumption) ?_
      · ((try dsimp only at hSw); go_simp)
      try simp only [Act.put, List.setIfInBounds_toArray, List.set_cons_zero, List.set_cons_succ]
      refine wpAnyH_take (i := 4) (oi := { dst := some 27, op := _, type := _, pos := _, after := _, guard := _ }) (v := .bool false) rfl (by kernel_rfl) (by kernel_rfl) (by kernel_rfl) (fun _ _ _ h => h) (Or.inl ⟨by rfl, fun w' hSw => ?_⟩) (by assumption) ?_
      · ((try dsimp only at hSw); go_simp)
      try simp only [Act.put, List.setIfInBounds_toArray, List.set_cons_zero, List.set_cons_succ]
      refine wpAnyH_take (i := 5) (oi := { dst := some 28, op := _, type := _, pos := _, after := _, guard := _ }) (v := .bool false) rfl (by kernel_rfl) (by kernel_rfl) (by kernel_rfl) (fun _ _ _ h => h) (Or.inl ⟨by rfl, fun w' hSw => ?_⟩) (by assumption) ?_
      · ((try dsimp only at hSw); go_simp)
      try simp only [Act.put, List.setIfInBounds_toArray, List.set_cons_zero, List.set_cons_succ]
      refine wpAnyH_take (i := 6) (oi := { dst := some 29, op := _, type := _, pos := _, after := _, guard := _ }) (v := .agg #[.int .i64 x.kind, .string x.self.p, .int .i64 x.self.n, .string x.parent.p, .int .i64 x.parent.n, .string x.dst.p, .int .i64 x.dst.n, .string x.name, .string x.dname, .string x.left.p, .int .i64 x.left.n, .string x.right.p, .int .i64 x.right.n, .slice x.a1 x.dels.length x.c1, .int .i64 x.first, .slice x.a2 x.lines.length x.c2]) rfl (by kernel_rfl) (by kernel_rfl) (by kernel_rfl) (fun _ _ _ h => h) (yields_load_op (by rfl) (.tmp 2) rfl gx x rfl (fun W hW => HX.out.on hW)) (by assumption) ?_
      try simp only [Act.put, List.setIfInBounds_toArray, List.set_cons_zero, List.set_cons_succ]
      refine wpAnyH_take (i := 7) (oi := { dst := some 30, op := _, type := _, pos := _, after := _, guard := _ }) (v := .agg #[.int .i64 q.kind, .string q.self.p, .int .i64 q.self.n, .string q.parent.p, .int .i64 q.parent.n, .string q.dst.p, .int .i64 q.dst.n, .string q.name, .string q.dname, .string q.left.p, .int .i64 q.left.n, .string q.right.p, .int .i64 q.right.n, .slice q.a1 q.dels.length q.c1, .int .i64 q.first, .slice q.a2 q.lines.length q.c2]) rfl (by kernel_rfl) (by kernel_rfl) (by kernel_rfl) (fun _ _ _ h => h) (yields_load_op (by rfl) (.tmp 3) rfl gq q rfl (fun W hW => HQ.out.on hW)) (by assumption) ?_
      try simp only [Act.put, List.setIfInBounds_toArray, List.set_cons_zero, List.set_cons_succ]
      refine wpAnyH_take (i := 9) (oi := { dst := some 32, op := _, type := _, pos := _, after := _, guard := _ }) (v := .agg #[.int .i64 x.kind, .string x.self.p, .int .i64 x.self.n, .string x.parent.p, .int .i64 x.parent.n, .string x.dst.p, .int .i64 x.dst.n, .string x.name, .string x.dname, .string x.left.p, .int .i64 x.left.n, .string x.right.p, .int .i64 x.right.n, .slice x.a1 x.dels.length x.c1, .int .i64 x.first, .slice x.a2 x.lines.length x.c2]) rfl (by kernel_rfl) (by kernel_rfl) (by kernel_rfl) (fun _ _ _ h => h) (yields_load_op (by rfl) (.tmp 2) rfl gx x rfl (fun W hW => HX.out.on hW)) (by assumption) ?_
      try simp only [Act.put, List.setIfInBounds_toArray, List.set_cons_zero, List.set_cons_succ]
      refine wpAnyH_take (i := 11) (oi := { dst := some 34, op := _, type := _, pos := _, after := _, guard := _ }) (v := .agg #[.int .i64 q.kind, .string q.self.p, .int .i64 q.self.n, .string q.parent.p, .int .i64 q.parent.n, .string q.dst.p, .int .i64 q.dst.n, .string q.name, .string q.dname, .string q.left.p, .int .i64 q.left.n, .string q.right.p, .int .i64 q.right.n, .slice q.a1 q.dels.length q.c1, .int .i64 q.first, .slice q.a2 q.lines.length q.c2]) rfl (by kernel_rfl) (by kernel_rfl) (by kernel_rfl) (fun _ _ _ h => h) (yields_load_op (by rfl) (.tmp 3) rfl gq q rfl (fun W hW => HQ.out.on hW)) (by assumption) ?_
      try simp only [Act.put, List.setIfInBounds_toArray, List.set_cons_zero, List.set_cons_succ]
      refine wpAnyH_ready (rs := [8, 10, 12]) (by kernel_rfl) (by simp) ?_
      refine (AllReadyH.cons rfl (fun K hK => ?_) (AllReadyH.cons rfl (fun K hK => ?_) (AllReadyH.cons rfl (fun K hK => ?_) AllReadyH.nil)))
      · go_simp
        go_at_call 10
        refine (opsamek_any x q _ (OX.out.on XK.out) (OQ.out.on XK.out) SX.out SQ.out r HSM.out).mono ?_
        rintro e wc1 ⟨rfl, hb⟩
        have X1 := Lib.hid (XK.out.trans (hb.mono XK.out.size))
        clear hb
        refine hK.out _ _ X1.out (fun hHeld8 => ?_)
        clear hK K hHeld1
        try simp only [Act.put, List.setIfInBounds_toArray, List.set_cons_zero, List.set_cons_succ]
        refine wpAnyH_ready (rs := [10, 12]) (by kernel_rfl) (by simp) ?_
        refine (AllReadyH.cons rfl (fun K hK => ?_) (AllReadyH.cons rfl (fun K hK => ?_) AllReadyH.nil))
        · have hb := (op_box wc1 x).1
          have X2 := Lib.hid (X1.out.trans (hb.mono X1.out.size))
          have H10 := Lib.hid (ops_one wc1 x (OX.out.on X1.out))
          clear hb
          go_simp
          refine hK.out _ _ X2.out (fun hHeld10 => ?_)
          clear hK K hHeld8
          try simp only [Act.put, List.setIfInBounds_toArray, List.set_cons_zero, List.set_cons_succ]
          generalize hwn : (wc1.alloc (.cells #[.int .i64 x.kind, .string x.self.p, .int .i64 x.self.n, .string x.parent.p, .int .i64 x.parent.n, .string x.dst.p, .int .i64 x.dst.n, .string x.name, .string x.dname, .string x.left.p, .int .i64 x.left.n, .string x.right.p, .int .i64 x.right.n, .slice x.a1 x.dels.length x.c1, .int .i64 x.first, .slice x.a2 x.lines.length x.c2] 27)) = wa2 at *
          clear hwn
          refine wpAnyH_ready (rs := [12]) (by kernel_rfl) (by simp) ?_
          refine (AllReadyH.cons rfl (fun K hK => ?_) AllReadyH.nil)
          · have hb := (op_box wa2 q).1
            have X3 := Lib.hid (X2.out.trans (hb.mono X2.out.size))
            replace H10 := Lib.hid (H10.out.on hb)
            have H12 := Lib.hid (ops_one wa2 q (OQ.out.on X2.out))
            clear hb
            go_simp
            refine hK.out _ _ X3.out (fun hHeld12 => ?_)
            clear hK K hHeld10
            try simp only [Act.put, List.setIfInBounds_toArray, List.set_cons_zero, List.set_cons_succ]
            generalize hwn : (wa2.alloc (.cells #[.int .i64 q.kind, .string q.self.p, .int .i64 q.self.n, .string q.parent.p, .int .i64 q.parent.n, .string q.dst.p, .int .i64 q.dst.n, .string q.name, .string q.dname, .string q.left.p, .int .i64 q.left.n, .string q.right.p, .int .i64 q.right.n, .slice q.a1 q.dels.length q.c1, .int .i64 q.first, .slice q.a2 q.lines.length q.c2] 27)) = wa3 at *
            clear hwn
            refine wpAnyH_ready (rs := [13]) (by kernel_rfl) (by simp) ?_
            refine AllReadyH.cons rfl (fun K hK => ?_) AllReadyH.nil
            go_simp
            go_at_call 11
            refine (refosame_any _ _ [x] [q] 1 1 _ H10.out H12.out (few_one SX.out) (few_one SQ.out) (by simp) (by simp) r HSN.out).mono ?_
            rintro e wf4 ⟨rfl, hb⟩
            have XF := Lib.hid (X3.out.trans (hb.mono X3.out.size))
            clear hb
            refine hK.out _ _ XF.out (fun hHeld13 => ?_)
            clear hK K hHeld12
            try simp only [Act.put, List.setIfInBounds_toArray, List.set_cons_zero, List.set_cons_succ]
            refine wpAnyH_take (i := 14) (oi := { dst := some 37, op := _, type := _, pos := _, after := _, guard := _ }) (v := .bool false) rfl (by kernel_rfl) (by kernel_rfl) (by kernel_rfl) (fun _ _ _ h => h) (Or.inl ⟨by rfl, fun w' hSw => ?_⟩) (by assumption) ?_
            · ((try dsimp only at hSw); go_simp)
            try simp only [Act.put, List.setIfInBounds_toArray, List.set_cons_zero, List.set_cons_succ]
            refine wpAnyH_take (i := 15) (oi := { dst := some 38, op := _, type := _, pos := _, after := _, guard := _ }) (v := .bool false) rfl (by kernel_rfl) (by kernel_rfl) (by kernel_rfl) (fun _ _ _ h => h) (Or.inl ⟨by rfl, fun w' hSw => ?_⟩) (by assumption) ?_
            · ((try dsimp only at hSw); go_simp)
            try simp only [Act.put, List.setIfInBounds_toArray, List.set_cons_zero, List.set_cons_succ]
            refine wpAnyH_done (by kernel_rfl) ?_ _
            refine NoPanic.normal ?_
            go_wp2_with fail
            go_meet
            case rel => exact ⟨rfl, XF.out⟩
        · have hb := (op_box wc1 q).1
          have X5 := Lib.hid (X1.out.trans (hb.mono X1.out.size))
          have H12 := Lib.hid (ops_one wc1 q (OQ.out.on X1.out))
          clear hb
          go_simp
          refine hK.out _ _ X5.out (fun hHeld12 => ?_)
          clear hK K hHeld8
          try simp only [Act.put, List.setIfInBounds_toArray, List.set_cons_zero, List.set_cons_succ]
          generalize hwn : (wc1.alloc (.cells #[.int .i64 q.kind, .string q.self.p, .int .i64 q.self.n, .string q.parent.p, .int .i64 q.parent.n, .string q.dst.p, .int .i64 q.dst.n, .string q.name, .string q.dname, .string q.left.p, .int .i64 q.left.n, .string q.right.p, .int .i64 q.right.n, .slice q.a1 q.dels.length q.c1, .int .i64 q.first, .slice q.a2 q.lines.length q.c2] 27)) = wa5 at *
          clear hwn
          refine wpAnyH_ready (rs := [10]) (by kernel_rfl) (by simp) ?_
          refine (AllReadyH.cons rfl (fun K hK => ?_) AllReadyH.nil)
          · have hb := (op_box wa5 x).1
            have X6 := Lib.hid (X5.out.trans (hb.mono X5.out.size))
            replace H12 := Lib.hid (H12.out.on hb)
            have H10 := Lib.hid (ops_one wa5 x (OX.out.on X5.out))
            clear hb
            go_simp
            refine hK.out _ _ X6.out (fun hHeld10 => ?_)
            clear hK K hHeld12
            try simp only [Act.put, List.setIfInBounds_toArray, List.set_cons_zero, List.set_cons_succ]
            generalize hwn : (wa5.alloc (.cells #[.int .i64 x.kind, .string x.self.p, .int .i64 x.self.n, .string x.parent.p, .int .i64 x.parent.n, .string x.dst.p, .int .i64 x.dst.n, .string x.name, .string x.dname, .string x.left.p, .int .i64 x.left.n, .string x.right.p, .int .i64 x.right.n, .slice x.a1 x.dels.length x.c1, .int .i64 x.first, .slice x.a2 x.lines.length x.c2] 27)) = wa6 at *
            clear hwn
            refine wpAnyH_ready (rs := [13]) (by kernel_rfl) (by simp) ?_
            refine AllReadyH.cons rfl (fun K hK => ?_) AllReadyH.nil
            go_simp
            go_at_call 11
            refine (refosame_any _ _ [x] [q] 1 1 _ H10.out H12.out (few_one SX.out) (few_one SQ.out) (by simp) (by simp) r HSN.out).mono ?_
            rintro e wf7 ⟨rfl, hb⟩
            have XF := Lib.hid (X6.out.trans (hb.mono X6.out.size))
            clear hb
            refine hK.out _ _ XF.out (fun hHeld13 => ?_)
            clear hK K hHeld10
            try simp only [Act.put, List.setIfInBounds_toArray, List.set_cons_zero, List.set_cons_succ]
            refine wpAnyH_take (i := 14) (oi := { dst := some 37, op := _, type := _, pos := _, after := _, guard := _ }) (v := .bool false) rfl (by kernel_rfl) (by kernel_rfl) (by kernel_rfl) (fun _ _ _ h => h) (Or.inl ⟨by rfl, fun w' hSw => ?_⟩) (by assumption) ?_
            · ((try dsimp only at hSw); go_simp)
            try simp only [Act.put, List.setIfInBounds_toArray, List.set_cons_zero, List.set_cons_succ]
            refine wpAnyH_take (i := 15) (oi := { dst := some 38, op := _, type := _, pos := _, after := _, guard := _ }) (v := .bool false) rfl (by kernel_rfl) (by kernel_rfl) (by kernel_rfl) (fun _ _ _ h => h) (Or.inl ⟨by rfl, fun w' hSw => ?_⟩) (by assumption) ?_
            · ((try dsimp only at hSw); go_simp)
            try simp only [Act.put, List.setIfInBounds_toArray, List.set_cons_zero, List.set_cons_succ]
            refine wpAnyH_done (by kernel_rfl) ?_ _
            refine NoPanic.normal ?_
            go_wp2_with fail
            go_meet
            case rel => exact ⟨rfl, XF.out⟩
      · have hb := (op_box wk x).1
        have X8 := Lib.hid (XK.out.trans (hb.mono XK.out.size))
        have H10 := Lib.hid (ops_one wk x (OX.out.on XK.out))
        clear hb
        go_simp
        refine hK.out _ _ X8.out (fun hHeld10 => ?_)
        clear hK K hHeld1
        try simp only [Act.put, List.setIfInBounds_toArray, List.set_cons_zero, List.set_cons_succ]
        generalize hwn : (wk.alloc (.cells #[.int .i64 x.kind, .string x.self.p, .int .i64 x.self.n, .string x.parent.p, .int .i64 x.parent.n, .string x.dst.p, .int .i64 x.dst.n, .string x.name, .string x.dname, .string x.left.p, .int .i64 x.left.n, .string x.right.p, .int .i64 x.right.n, .slice x.a1 x.dels.length x.c1, .int .i64 x.first, .slice x.a2 x.lines.length x.c2] 27)) = wa8 at *
        clear hwn
        refine wpAnyH_ready (rs := [8, 12]) (by kernel_rfl) (by simp) ?_
        refine (AllReadyH.cons rfl (fun K hK => ?_) (AllReadyH.cons rfl (fun K hK => ?_) AllReadyH.nil))
        · go_simp
          go_at_call 10
          refine (opsamek_any x q _ (OX.out.on X8.out) (OQ.out.on X8.out) SX.out SQ.out r HSM.out).mono ?_
          rintro e wc9 ⟨rfl, hb⟩
          have X9 := Lib.hid (X8.out.trans (hb.mono X8.out.size))
          replace H10 := Lib.hid (H10.out.on hb)
          clear hb
          refine hK.out _ _ X9.out (fun hHeld8 => ?_)
          clear hK K hHeld10
          try simp only [Act.put, List.setIfInBounds_toArray, List.set_cons_zero, List.set_cons_succ]
          refine wpAnyH_ready (rs := [12]) (by kernel_rfl) (by simp) ?_
          refine (AllReadyH.cons rfl (fun K hK => ?_) AllReadyH.nil)
          · have hb := (op_box wc9 q).1
            have X10 := Lib.hid (X9.out.trans (hb.mono X9.out.size))
            replace H10 := Lib.hid (H10.out.on hb)
            have H12 := Lib.hid (ops_one wc9 q (OQ.out.on X9.out))
            clear hb
            go_simp
            refine hK.out _ _ X10.out (fun hHeld12 => ?_)
            clear hK K hHeld8
            try simp only [Act.put, List.setIfInBounds_toArray, List.set_cons_zero, List.set_cons_succ]
            generalize hwn : (wc9.alloc (.cells #[.int .i64 q.kind, .string q.self.p, .int .i64 q.self.n, .string q.parent.p, .int .i64 q.parent.n, .string q.dst.p, .int .i64 q.dst.n, .string q.name, .string q.dname, .string q.left.p, .int .i64 q.left.n, .string q.right.p, .int .i64 q.right.n, .slice q.a1 q.dels.length q.c1, .int .i64 q.first, .slice q.a2 q.lines.length q.c2] 27)) = wa10 at *
            clear hwn
            refine wpAnyH_ready (rs := [13]) (by kernel_rfl) (by simp) ?_
            refine AllReadyH.cons rfl (fun K hK => ?_) AllReadyH.nil
            go_simp
            go_at_call 11
            refine (refosame_any _ _ [x] [q] 1 1 _ H10.out H12.out (few_one SX.out) (few_one SQ.out) (by simp) (by simp) r HSN.out).mono ?_
            rintro e wf11 ⟨rfl, hb⟩
            have XF := Lib.hid (X10.out.trans (hb.mono X10.out.size))
            clear hb
            refine hK.out _ _ XF.out (fun hHeld13 => ?_)
            clear hK K hHeld12
            try simp only [Act.put, List.setIfInBounds_toArray, List.set_cons_zero, List.set_cons_succ]
            refine wpAnyH_take (i := 14) (oi := { dst := some 37, op := _, type := _, pos := _, after := _, guard := _ }) (v := .bool false) rfl (by kernel_rfl) (by kernel_rfl) (by kernel_rfl) (fun _ _ _ h => h) (Or.inl ⟨by rfl, fun w' hSw => ?_⟩) (by assumption) ?_
            · ((try dsimp only at hSw); go_simp)
            try simp only [Act.put, List.setIfInBounds_toArray, List.set_cons_zero, List.set_cons_succ]
            refine wpAnyH_take (i := 15) (oi := { dst := some 38, op := _, type := _, pos := _, after := _, guard := _ }) (v := .bool false) rfl (by kernel_rfl) (by kernel_rfl) (by kernel_rfl) (fun _ _ _ h => h) (Or.inl ⟨by rfl, fun w' hSw => ?_⟩) (by assumption) ?_
            · ((try dsimp only at hSw); go_simp)
            try simp only [Act.put, List.setIfInBounds_toArray, List.set_cons_zero, List.set_cons_succ]
            refine wpAnyH_done (by kernel_rfl) ?_ _
            refine NoPanic.normal ?_
            go_wp2_with fail
            go_meet
            case rel => exact ⟨rfl, XF.out⟩
        · have hb := (op_box wa8 q).1
          have X12 := Lib.hid (X8.out.trans (hb.mono X8.out.size))
          replace H10 := Lib.hid (H10.out.on hb)
          have H12 := Lib.hid (ops_one wa8 q (OQ.out.on X8.out))
          clear hb
          go_simp
          refine hK.out _ _ X12.out (fun hHeld12 => ?_)
          clear hK K hHeld10
          try simp only [Act.put, List.setIfInBounds_toArray, List.set_cons_zero, List.set_cons_succ]
          generalize hwn : (wa8.alloc (.cells #[.int .i64 q.kind, .string q.self.p, .int .i64 q.self.n, .string q.parent.p, .int .i64 q.parent.n, .string q.dst.p, .int .i64 q.dst.n, .string q.name, .string q.dname, .string q.left.p, .int .i64 q.left.n, .string q.right.p, .int .i64 q.right.n, .slice q.a1 q.dels.length q.c1, .int .i64 q.first, .slice q.a2 q.lines.length q.c2] 27)) = wa12 at *
          clear hwn
          refine wpAnyH_ready (rs := [8]) (by kernel_rfl) (by simp) ?_
          refine (AllReadyH.cons rfl (fun K hK => ?_) AllReadyH.nil)
          · go_simp
            go_at_call 10
            refine (opsamek_any x q _ (OX.out.on X12.out) (OQ.out.on X12.out) SX.out SQ.out r HSM.out).mono ?_
            rintro e wc13 ⟨rfl, hb⟩
            have X13 := Lib.hid (X12.out.trans (hb.mono X12.out.size))
            replace H10 := Lib.hid (H10.out.on hb)
            replace H12 := Lib.hid (H12.out.on hb)
            clear hb
            refine hK.out _ _ X13.out (fun hHeld8 => ?_)
            clear hK K hHeld12
            try simp only [Act.put, List.setIfInBounds_toArray, List.set_cons_zero, List.set_cons_succ]
            refine wpAnyH_ready (rs := [13]) (by kernel_rfl) (by simp) ?_
            refine AllReadyH.cons rfl (fun K hK => ?_) AllReadyH.nil
            go_simp
            go_at_call 11
            refine (refosame_any _ _ [x] [q] 1 1 _ H10.out H12.out (few_one SX.out) (few_one SQ.out) (by simp) (by simp) r HSN.out).mono ?_
            rintro e wf14 ⟨rfl, hb⟩
            have XF := Lib.hid (X13.out.trans (hb.mono X13.out.size))
            clear hb
            refine hK.out _ _ XF.out (fun hHeld13 => ?_)
            clear hK K hHeld8
            try simp only [Act.put, List.setIfInBounds_toArray, List.set_cons_zero, List.set_cons_succ]
            refine wpAnyH_take (i := 14) (oi := { dst := some 37, op := _, type := _, pos := _, after := _, guard := _ }) (v := .bool false) rfl (by kernel_rfl) (by kernel_rfl) (by kernel_rfl) (fun _ _ _ h => h) (Or.inl ⟨by rfl, fun w' hSw => ?_⟩) (by assumption) ?_
            · ((try dsimp only at hSw); go_simp)
            try simp only [Act.put, List.setIfInBounds_toArray, List.set_cons_zero, List.set_cons_succ]
            refine wpAnyH_take (i := 15) (oi := { dst := some 38, op := _, type := _, pos := _, after := _, guard := _ }) (v := .bool false) rfl (by kernel_rfl) (by kernel_rfl) (by kernel_rfl) (fun _ _ _ h => h) (Or.inl ⟨by rfl, fun w' hSw => ?_⟩) (by assumption) ?_
            · ((try dsimp only at hSw); go_simp)
            try simp only [Act.put, List.setIfInBounds_toArray, List.set_cons_zero, List.set_cons_succ]
            refine wpAnyH_done (by kernel_rfl) ?_ _
            refine NoPanic.normal ?_
            go_wp2_with fail
            go_meet
            case rel => exact ⟨rfl, XF.out⟩
      · have hb := (op_box wk q).1
        have X15 := Lib.hid (XK.out.trans (hb.mono XK.out.size))
        have H12 := Lib.hid (ops_one wk q (OQ.out.on XK.out))
        clear hb
        go_simp
        refine hK.out _ _ X15.out (fun hHeld12 => ?_)
        clear hK K hHeld1
        try simp only [Act.put, List.setIfInBounds_toArray, List.set_cons_zero, List.set_cons_succ]
        generalize hwn : (wk.alloc (.cells #[.int .i64 q.kind, .string q.self.p, .int .i64 q.self.n, .string q.parent.p, .int .i64 q.parent.n, .string q.dst.p, .int .i64 q.dst.n, .string q.name, .string q.dname, .string q.left.p, .int .i64 q.left.n, .string q.right.p, .int .i64 q.right.n, .slice q.a1 q.dels.length q.c1, .int .i64 q.first, .slice q.a2 q.lines.length q.c2] 27)) = wa15 at *
        clear hwn
        refine wpAnyH_ready (rs := [8, 10]) (by kernel_rfl) (by simp) ?_
        refine (AllReadyH.cons rfl (fun K hK => ?_) (AllReadyH.cons rfl (fun K hK => ?_) AllReadyH.nil))
        · go_simp
          go_at_call 10
          refine (opsamek_any x q _ (OX.out.on X15.out) (OQ.out.on X15.out) SX.out SQ.out r HSM.out).mono ?_
          rintro e wc16 ⟨rfl, hb⟩
          have X16 := Lib.hid (X15.out.trans (hb.mono X15.out.size))
          replace H12 := Lib.hid (H12.out.on hb)
          clear hb
          refine hK.out _ _ X16.out (fun hHeld8 => ?_)
          clear hK K hHeld12
          try simp only [Act.put, List.setIfInBounds_toArray, List.set_cons_zero, List.set_cons_succ]
          refine wpAnyH_ready (rs := [10]) (by kernel_rfl) (by simp) ?_
          refine (AllReadyH.cons rfl (fun K hK => ?_) AllReadyH.nil)
          · have hb := (op_box wc16 x).1
            have X17 := Lib.hid (X16.out.trans (hb.mono X16.out.size))
            replace H12 := Lib.hid (H12.out.on hb)
            have H10 := Lib.hid (ops_one wc16 x (OX.out.on X16.out))
            clear hb
            go_simp
            refine hK.out _ _ X17.out (fun hHeld10 => ?_)
            clear hK K hHeld8
            try simp only [Act.put, List.setIfInBounds_toArray, List.set_cons_zero, List.set_cons_succ]
            generalize hwn : (wc16.alloc (.cells #[.int .i64 x.kind, .string x.self.p, .int .i64 x.self.n, .string x.parent.p, .int .i64 x.parent.n, .string x.dst.p, .int .i64 x.dst.n, .string x.name, .string x.dname, .string x.left.p, .int .i64 x.left.n, .string x.right.p, .int .i64 x.right.n, .slice x.a1 x.dels.length x.c1, .int .i64 x.first, .slice x.a2 x.lines.length x.c2] 27)) = wa17 at *
            clear hwn
            refine wpAnyH_ready (rs := [13]) (by kernel_rfl) (by simp) ?_
            refine AllReadyH.cons rfl (fun K hK => ?_) AllReadyH.nil
            go_simp
            go_at_call 11
            refine (refosame_any _ _ [x] [q] 1 1 _ H10.out H12.out (few_one SX.out) (few_one SQ.out) (by simp) (by simp) r HSN.out).mono ?_
            rintro e wf18 ⟨rfl, hb⟩
            have XF := Lib.hid (X17.out.trans (hb.mono X17.out.size))
            clear hb
            refine hK.out _ _ XF.out (fun hHeld13 => ?_)
            clear hK K hHeld10
            try simp only [Act.put, List.setIfInBounds_toArray, List.set_cons_zero, List.set_cons_succ]
            refine wpAnyH_take (i := 14) (oi := { dst := some 37, op := _, type := _, pos := _, after := _, guard := _ }) (v := .bool false) rfl (by kernel_rfl) (by kernel_rfl) (by kernel_rfl) (fun _ _ _ h => h) (Or.inl ⟨by rfl, fun w' hSw => ?_⟩) (by assumption) ?_
            · ((try dsimp only at hSw); go_simp)
            try simp only [Act.put, List.setIfInBounds_toArray, List.set_cons_zero, List.set_cons_succ]
            refine wpAnyH_take (i := 15) (oi := { dst := some 38, op := _, type := _, pos := _, after := _, guard := _ }) (v := .bool false) rfl (by kernel_rfl) (by kernel_rfl) (by kernel_rfl) (fun _ _ _ h => h) (Or.inl ⟨by rfl, fun w' hSw => ?_⟩) (by assumption) ?_
            · ((try dsimp only at hSw); go_simp)
            try simp only [Act.put, List.setIfInBounds_toArray, List.set_cons_zero, List.set_cons_succ]
            refine wpAnyH_done (by kernel_rfl) ?_ _
            refine NoPanic.normal ?_
            go_wp2_with fail
            go_meet
            case rel => exact ⟨rfl, XF.out⟩
        · have hb := (op_box wa15 x).1
          have X19 := Lib.hid (X15.out.trans (hb.mono X15.out.size))
          replace H12 := Lib.hid (H12.out.on hb)
          have H10 := Lib.hid (ops_one wa15 x (OX.out.on X15.out))
          clear hb
          go_simp
          refine hK.out _ _ X19.out (fun hHeld10 => ?_)
          clear hK K hHeld12
          try simp only [Act.put, List.setIfInBounds_toArray, List.set_cons_zero, List.set_cons_succ]
          generalize hwn : (wa15.alloc (.cells #[.int .i64 x.kind, .string x.self.p, .int .i64 x.self.n, .string x.parent.p, .int .i64 x.parent.n, .string x.dst.p, .int .i64 x.dst.n, .string x.name, .string x.dname, .string x.left.p, .int .i64 x.left.n, .string x.right.p, .int .i64 x.right.n, .slice x.a1 x.dels.length x.c1, .int .i64 x.first, .slice x.a2 x.lines.length x.c2] 27)) = wa19 at *
          clear hwn
          refine wpAnyH_ready (rs := [8]) (by kernel_rfl) (by simp) ?_
          refine (AllReadyH.cons rfl (fun K hK => ?_) AllReadyH.nil)
          · go_simp
            go_at_call 10
            refine (opsamek_any x q _ (OX.out.on X19.out) (OQ.out.on X19.out) SX.out SQ.out r HSM.out).mono ?_
            rintro e wc20 ⟨rfl, hb⟩
            have X20 := Lib.hid (X19.out.trans (hb.mono X19.out.size))
            replace H10 := Lib.hid (H10.out.on hb)
            replace H12 := Lib.hid (H12.out.on hb)
            clear hb
            refine hK.out _ _ X20.out (fun hHeld8 => ?_)
            clear hK K hHeld10
            try simp only [Act.put, List.setIfInBounds_toArray, List.set_cons_zero, List.set_cons_succ]
            refine wpAnyH_ready (rs := [13]) (by kernel_rfl) (by simp) ?_
            refine AllReadyH.cons rfl (fun K hK => ?_) AllReadyH.nil
            go_simp
            go_at_call 11
            refine (refosame_any _ _ [x] [q] 1 1 _ H10.out H12.out (few_one SX.out) (few_one SQ.out) (by simp) (by simp) r HSN.out).mono ?_
            rintro e wf21 ⟨rfl, hb⟩
            have XF := Lib.hid (X20.out.trans (hb.mono X20.out.size))
            clear hb
            refine hK.out _ _ XF.out (fun hHeld13 => ?_)
            clear hK K hHeld8
            try simp only [Act.put, List.setIfInBounds_toArray, List.set_cons_zero, List.set_cons_succ]
            refine wpAnyH_take (i := 14) (oi := { dst := some 37, op := _, type := _, pos := _, after := _, guard := _ }) (v := .bool false) rfl (by kernel_rfl) (by kernel_rfl) (by kernel_rfl) (fun _ _ _ h => h) (Or.inl ⟨by rfl, fun w' hSw => ?_⟩) (by assumption) ?_
            · ((try dsimp only at hSw); go_simp)
            try simp only [Act.put, List.setIfInBounds_toArray, List.set_cons_zero, List.set_cons_succ]
            refine wpAnyH_take (i := 15) (oi := { dst := some 38, op := _, type := _, pos := _, after := _, guard := _ }) (v := .bool false) rfl (by kernel_rfl) (by kernel_rfl) (by kernel_rfl) (fun _ _ _ h => h) (Or.inl ⟨by rfl, fun w' hSw => ?_⟩) (by assumption) ?_
            · ((try dsimp only at hSw); go_simp)
            try simp only [Act.put, List.setIfInBounds_toArray, List.set_cons_zero, List.set_cons_succ]
            refine wpAnyH_done (by kernel_rfl) ?_ _
            refine NoPanic.normal ?_
            go_wp2_with fail
            go_meet
            case rel => exact ⟨rfl, XF.out⟩
    case rest =>
      obtain ⟨rfl, hcb⟩ := hcut
      have hb := hcb.out
      replace HB := Lib.hid (HB.out.trans (hb.mono (by have h := HB.out.size; rw [HGX.out] at h; exact h)))
      replace HX := Lib.hid (HX.out.on hb)
      replace OX := Lib.hid (OX.out.on hb)
      replace HT := Lib.hid (Tabs.on HT.out hb)
      replace HN := Lib.hid (HN.out.on hb)
      clear hb hcb HQ OQ SQ q1 HRC HSM HSN
      cases m
      · obtain ⟨rfl, rfl⟩ := HSR.out.2 HM.out
        go_wp2_with fail
        refine (HAW.out _ HT.out HN.out).mono ?_
        rintro e w6 ⟨rfl, hb⟩
        have HF := Lib.hid (HB.out.trans (hb.mono (by have h := HB.out.size; rw [HGX.out] at h; exact h)))
        clear hb HAW HT HN HX OX
        go_wp2
        go_ret
        exact ⟨rfl, by rw [HGX.out]; exact HF.out⟩
      · obtain ⟨hs, rfl⟩ := HSR.out.1 HM.out
        have HS := Lib.hid hs.symm
        have HPU := Lib.hid (pu_may HM.out)
        have CG := Lib.hid (fun W hT hN => opget_any s W hT hN (by rw [hs, toB_size]; exact putO_few LX.out HM.out))
        clear hs HSR
        go_wp2_with fail
        refine (CG.out _ HT.out HN.out).mono ?_
        rintro e w5 ⟨z, er, rfl, hgot, hzok, hb⟩
        obtain ⟨rfl, hzk⟩ := got_put HM.out (by rw [HS.out]; exact hgot.out)
        have zm : mayO z.key = true := by rw [hzk]; exact HM.out
        have SZ := Lib.hid (sz_pu (pu_may zm) zm)
        have HZK := Lib.hid hzk
        have hbz := op_box w5 z
        have hb6 := hb.trans (hbz.1.mono hb.size)
        replace HX := Lib.hid (HX.out.on hb6)
        replace OX := Lib.hid (OX.out.on hb6)
        replace HT := Lib.hid (Tabs.on HT.out hb6)
        replace HN := Lib.hid (HN.out.on hb6)
        have HZ := Lib.hid hbz.2
        have HZO := Lib.hid (hzok.on hbz.1)
        replace HB := Lib.hid (HB.out.trans (hb6.mono (by have h := HB.out.size; rw [HGX.out] at h; exact h)))
        unfold Om.val Om.cells
        clear hgot hzok hb hbz hb6 CG hzk zm
        go_upto_region 10 with (fail)
        generalize (w5.alloc (.cells #[.int .i64 z.kind, .string z.self.p, .int .i64 z.self.n, .string z.parent.p, .int .i64 z.parent.n, .string z.dst.p, .int .i64 z.dst.n, .string z.name, .string z.dname, .string z.left.p, .int .i64 z.left.n, .string z.right.p, .int .i64 z.right.n, .slice z.a1 z.dels.length z.c1, .int .i64 z.first, .slice z.a2 z.lines.length z.c2] 27)) = w4 at *
        generalize hgz : w5.heap.size = gz at *
        clear hgz
        go_wp2_with fail
        refine (HAW.out _ HT.out HN.out).mono ?_
        rintro e w6 ⟨rfl, hb⟩
        replace HB := Lib.hid (HB.out.trans (hb.mono (by have h := HB.out.size; rw [HGX.out] at h; exact h)))
        replace HX := Lib.hid (HX.out.on hb)
        replace OX := Lib.hid (OX.out.on hb)
        replace HZ := Lib.hid (HZ.out.on hb)
        replace HZO := Lib.hid (HZO.out.on hb)
        clear hb HAW HT HN
        have CP : Hid (Calls Tryz.prog 13 #[x.val] w6 fun e w' => e = .returned (.string s) ∧ Below w6.heap.size w6 w') := by
          have h := refoput_any x w6 OX.out HPU.out
          rw [HS.out] at h
          exact h
        go_wp2_with ((with_reducible refine wpList_load_opw (.tmp 2) gx x HX.out ?_ ?_ ?_ ?_); rfl; rfl; rfl; simp only [Act.put, List.setIfInBounds_toArray, List.set_cons_zero, List.set_cons_succ])
        refine CP.out.mono ?_
        rintro e w7 ⟨rfl, hb⟩
        replace HB := Lib.hid (HB.out.trans (hb.mono (by have h := HB.out.size; rw [HGX.out] at h; exact h)))
        replace HX := Lib.hid (HX.out.on hb)
        replace OX := Lib.hid (OX.out.on hb)
        replace HZ := Lib.hid (HZ.out.on hb)
        replace HZO := Lib.hid (HZO.out.on hb)
        have q2 := str_eqb s
        clear hb CP
        obtain ⟨hb1, -⟩ := op_box w7 z
        have HXA := Lib.hid (HX.out.on hb1)
        generalize x.val = vx4
        have h1 := ops_one w7 z HZO.out
        obtain ⟨hb2, -⟩ := op_box (w7.alloc (.cells #[.int .i64 z.kind, .string z.self.p, .int .i64 z.self.n, .string z.parent.p, .int .i64 z.parent.n, .string z.dst.p, .int .i64 z.dst.n, .string z.name, .string z.dname, .string z.left.p, .int .i64 z.left.n, .string z.right.p, .int .i64 z.right.n, .slice z.a1 z.dels.length z.c1, .int .i64 z.first, .slice z.a2 z.lines.length z.c2] 27)) x
        have h2 := ops_one (w7.alloc (.cells #[.int .i64 z.kind, .string z.self.p, .int .i64 z.self.n, .string z.parent.p, .int .i64 z.parent.n, .string z.dst.p, .int .i64 z.dst.n, .string z.name, .string z.dname, .string z.left.p, .int .i64 z.left.n, .string z.right.p, .int .i64 z.right.n, .slice z.a1 z.dels.length z.c1, .int .i64 z.first, .slice z.a2 z.lines.length z.c2] 27)) x (OX.out.on hb1)
        rw [show (w7.alloc (.cells #[.int .i64 z.kind, .string z.self.p, .int .i64 z.self.n, .string z.parent.p, .int .i64 z.parent.n, .string z.dst.p, .int .i64 z.dst.n, .string z.name, .string z.dname, .string z.left.p, .int .i64 z.left.n, .string z.right.p, .int .i64 z.right.n, .slice z.a1 z.dels.length z.c1, .int .i64 z.first, .slice z.a2 z.lines.length z.c2] 27)).heap.size = w7.heap.size + 1 by simp] at h2
        have hb12 := hb1.trans (hb2.mono hb1.size)
        have CS : Hid (Calls Tryz.prog 11 #[.slice (some ⟨w7.heap.size, 0, none⟩) 1 1, .slice (some ⟨w7.heap.size + 1, 0, none⟩) 1 1] ((w7.alloc (.cells #[.int .i64 z.kind, .string z.self.p, .int .i64 z.self.n, .string z.parent.p, .int .i64 z.parent.n, .string z.dst.p, .int .i64 z.dst.n, .string z.name, .string z.dname, .string z.left.p, .int .i64 z.left.n, .string z.right.p, .int .i64 z.right.n, .slice z.a1 z.dels.length z.c1, .int .i64 z.first, .slice z.a2 z.lines.length z.c2] 27)).alloc (.cells #[.int .i64 x.kind, .string x.self.p, .int .i64 x.self.n, .string x.parent.p, .int .i64 x.parent.n, .string x.dst.p, .int .i64 x.dst.n, .string x.name, .string x.dname, .string x.left.p, .int .i64 x.left.n, .string x.right.p, .int .i64 x.right.n, .slice x.a1 x.dels.length x.c1, .int .i64 x.first, .slice x.a2 x.lines.length x.c2] 27)) fun e w' => e = .returned (.bool true) ∧ Below ((w7.alloc (.cells #[.int .i64 z.kind, .string z.self.p, .int .i64 z.self.n, .string z.parent.p, .int .i64 z.parent.n, .string z.dst.p, .int .i64 z.dst.n, .string z.name, .string z.dname, .string z.left.p, .int .i64 z.left.n, .string z.right.p, .int .i64 z.right.n, .slice z.a1 z.dels.length z.c1, .int .i64 z.first, .slice z.a2 z.lines.length z.c2] 27)).alloc (.cells #[.int .i64 x.kind, .string x.self.p, .int .i64 x.self.n, .string x.parent.p, .int .i64 x.parent.n, .string x.dst.p, .int .i64 x.dst.n, .string x.name, .string x.dname, .string x.left.p, .int .i64 x.left.n, .string x.right.p, .int .i64 x.right.n, .slice x.a1 x.dels.length x.c1, .int .i64 x.first, .slice x.a2 x.lines.length x.c2] 27)).heap.size ((w7.alloc (.cells #[.int .i64 z.kind, .string z.self.p, .int .i64 z.self.n, .string z.parent.p, .int .i64 z.parent.n, .string z.dst.p, .int .i64 z.dst.n, .string z.name, .string z.dname, .string z.left.p, .int .i64 z.left.n, .string z.right.p, .int .i64 z.right.n, .slice z.a1 z.dels.length z.c1, .int .i64 z.first, .slice z.a2 z.lines.length z.c2] 27)).alloc (.cells #[.int .i64 x.kind, .string x.self.p, .int .i64 x.self.n, .string x.parent.p, .int .i64 x.parent.n, .string x.dst.p, .int .i64 x.dst.n, .string x.name, .string x.dname, .string x.left.p, .int .i64 x.left.n, .string x.right.p, .int .i64 x.right.n, .slice x.a1 x.dels.length x.c1, .int .i64 x.first, .slice x.a2 x.lines.length x.c2] 27)) w') := refosame_any _ _ [z] [x] 1 1 _ (h1.on hb2) h2 (few_one SZ.out) (few_one SX.out) (by simp) (by simp) true (decide_eq_true (by show [z.key] = [x.key]; rw [HZK.out]))
        have HBB := Lib.hid (HB.out.trans (hb12.mono (by have h := HB.out.size; rw [HGX.out] at h; exact h)))
        clear hb1 h1 hb2 h2 hb12 HZO HX OX HB
        go_wp2_with (first | ((with_reducible refine wpList_load_opw (.tmp 8) gz z HZ.out ?_ ?_ ?_ ?_); rfl; rfl; rfl; simp only [Act.put, List.setIfInBounds_toArray, List.set_cons_zero, List.set_cons_succ, Om.val, Om.cells]) | ((with_reducible refine wpList_load_opw (.tmp 2) gx x HXA.out ?_ ?_ ?_ ?_); rfl; rfl; rfl; simp only [Act.put, List.setIfInBounds_toArray, List.set_cons_zero, List.set_cons_succ, Om.val, Om.cells]))
        refine CS.out.mono ?_
        rintro e w8 ⟨rfl, hb⟩
        have HF := Lib.hid (HBB.out.trans (hb.mono (by have h := HBB.out.size; rw [HGX.out] at h; exact h)))
        clear hb CS HBB HZ HXA
        go_wp2
        go_ret
        exact ⟨rfl, by rw [HGX.out]; exact HF.out⟩
end Go.Proofs.YtioknegeebgdbaaGreatDoor
