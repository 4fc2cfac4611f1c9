/- The reference's Put of an operation. The reference's Put of layer 13. The reference's made, or, none of ids. The reference's Right, Check, Text, Split, At of layer 3. -/
import Derived.Lib.QuietBelow
import Derived.Deep.CutRange
import Derived.Deep.MidRow
import Derived.BigQuiet
import Derived.Deep.QuietTactic
import Derived.Handy
import Derived.Test.YtoajckhfnadhjaaGreatDoorShelf
import Derived.Lib.LaidU8
import Derived.BigRegion
import Derived.Test.YtoajckhfnadhjaaGreatDoorCk11
import Derived.Test.YtoajckhfnadhjaaGreatDoorCk31
namespace Go.Proofs.YtoajckhfnadhjaaGreatDoor
open Go.RowKit
open Go.Sort
set_option linter.unusedVariables false

theorem refnum_q (n : Int) (w : World) (h0 : 0 ≤ n) (h1 : n ≤ 18446744073709551615) (b : ByteArray) (hb : toB (numB n.toNat) = b) (d : Nat) (os : Array Obj) :
    Calls Tryz.prog 74 #[.int .u64 n] (grow (redrawn w d) os) fun e w'' => e = .returned (.string b) ∧ ∃ p : Regrown, w'' = grow (redrawn w p.d) p.os := by
  subst hb
  exact Calls.regrown_of (refnum_any n _ h0 h1)
theorem reftext_q (s : ByteArray) (w : World) (hs : s.size ≤ 140737488351232) (b : ByteArray) (hb : toB (textB s.data.toList) = b) (d : Nat) (os : Array Obj) :
    Calls Tryz.prog 47 #[.string s] (grow (redrawn w d) os) fun e w'' => e = .returned (.string b) ∧ ∃ p : Regrown, w'' = grow (redrawn w p.d) p.os := by
  subst hb
  exact Calls.regrown_of (reftext_any s _ hs)
theorem refitext_q (x : Im) (w : World) (hs : x.p.size ≤ 1000000) (b : ByteArray) (hb : toB (textK x.key) = b) (d : Nat) (os : Array Obj) :
    Calls Tryz.prog 75 #[.agg #[.string x.p, .int .i64 x.n]] (grow (redrawn w d) os) fun e w'' => e = .returned (.string b) ∧ ∃ p : Regrown, w'' = grow (redrawn w p.d) p.os := by
  subst hb
  exact Calls.regrown_of (refitext_any x _ hs)
theorem reflist_q (A : Option Addr) (ls : List (List UInt8)) (n cap : Nat) (hn0 : n = ls.length) (w : World) (hs : Strs w w.heap.size A (toBs ls)) (hn : ls.length ≤ 140737488351232) (hl : (numB ls.length).length + (textsB ls).length ≤ 140737488351232) (b : ByteArray) (hb : toB (listB ls) = b) (d : Nat) (os : Array Obj) :
    Calls Tryz.prog 48 #[.slice A n cap] (grow (redrawn w d) os) fun e w'' => e = .returned (.string b) ∧ ∃ p : Regrown, w'' = grow (redrawn w p.d) p.os := by
  subst hb
  subst hn0
  have h := reflist_any A (toBs ls) cap (grow (redrawn w d) os) (hs.on (below_regrown w d os)) (by rw [toBs_len]; exact hn) (by rw [toBs_len, lists_toBs]; exact hl)
  rw [toBs_len, lists_toBs] at h
  exact Calls.regrown_of h
set_option maxHeartbeats 8000000 in
set_option maxRecDepth 100000 in
theorem refoput_any (x : Om) (w : World) (ox : x.Ok w w.heap.size) (px : x.Pu) :
    Calls Tryz.prog 46 #[x.val] w fun e w' => e = .returned (.string (toB (putO x.key))) ∧ Below w.heap.size w w' := by
  obtain ⟨hb, hx⟩ := op_box w x
  have OX := Lib.hid (ox.on hb)
  have HX := Lib.hid hx
  have PX := Lib.hid px
  have HB := Lib.hid hb
  have wk : IntKind.u64.wrap x.kind = x.kind := IntWalk.u64_in _ ⟨px.kind.1, by have := px.kind.2; omega⟩
  have wf : IntKind.u64.wrap x.first = x.first := IntWalk.u64_in _ ⟨px.first.1, by have := px.first.2; omega⟩
  have hgs : w.heap.size < (w.alloc (.cells #[.int .i64 x.kind, .string x.self.p, .int .i64 x.self.n, .string x.parent.p, .int .i64 x.parent.n, .string x.dst.p, .int .i64 x.dst.n, .string x.name, .string x.dname, .string x.left.p, .int .i64 x.left.n, .string x.right.p, .int .i64 x.right.n, .slice x.a1 x.dels.length x.c1, .int .i64 x.first, .slice x.a2 x.lines.length x.c2] 42)).heap.size := by simp
  clear hb hx ox px
  unfold Om.val Om.cells
  go_enter Tryz.func46, Tryz.ntmps46
  go_upto_region 1 with (fail)
  generalize (w.alloc (.cells #[.int .i64 x.kind, .string x.self.p, .int .i64 x.self.n, .string x.parent.p, .int .i64 x.parent.n, .string x.dst.p, .int .i64 x.dst.n, .string x.name, .string x.dname, .string x.left.p, .int .i64 x.left.n, .string x.right.p, .int .i64 x.right.n, .slice x.a1 x.dels.length x.c1, .int .i64 x.first, .slice x.a2 x.lines.length x.c2] 42)) = wa at *
  -- @P1
  have HX0 := HX
  have OX0 := OX
  have HB0 := HB
  have hg0 := hgs
  clear HX OX HB hgs
  obtain ⟨s1, hs1⟩ : ∃ b, toB (numB x.kind.toNat) = b := ⟨_, rfl⟩
  have zs1 : s1.size ≤ 10 := by rw [← hs1]; rw [toB_size]; exact numB_len _
  obtain ⟨s2, hs2⟩ : ∃ b, toB (numB x.first.toNat) = b := ⟨_, rfl⟩
  have zs2 : s2.size ≤ 10 := by rw [← hs2]; rw [toB_size]; exact numB_len _
  have n1 := refnum_q x.kind wa PX.out.kind.1 (by have := PX.out.kind.2; omega) s1 hs1
  have n2 := refnum_q x.first wa PX.out.first.1 (by have := PX.out.first.2; omega) s2 hs2
  have HTs1 : Hid (s1 = toB (numB x.kind.toNat)) := hs1.symm
  have HTs2 : Hid (s2 = toB (numB x.first.toNat)) := hs2.symm
  clear hs1 hs2
  obtain ⟨t1, ht1⟩ : ∃ t, s1 ++ s2 = t := ⟨_, rfl⟩
  have adt1 := add_q s1 s2 t1 ht1 (by omega)
  have zt1 : t1.size ≤ 20 := by rw [← ht1, ByteArray.size_append]; omega
  have HTt1 : Hid (t1 = toB (numB x.kind.toNat ++ numB x.first.toNat)) := by show _ = _; rw [← ht1, HTs1.out, HTs2.out, toB_app]
  clear ht1
  have ck := fun d os => cell_regrown (op_cells HX0.out).kind d os
  have cf := fun d os => cell_regrown (op_cells HX0.out).first d os
  -- @P1b
  refine wp_region_quiet_below (by kernel_rfl) (by kernel_rfl) ?_
  repeat (go_big_quiet_step (first | with_reducible exact n1 _ _ | with_reducible exact n2 _ _))
  refine wpQuiet_nil ?_
  intro _ hw'
  obtain ⟨⟨dq, osq⟩, hw''⟩ := hw'
  subst hw''
  clear n1 n2 ck cf adt1 wk wf
  have HX1 := Lib.hid (HX0.out.on (below_regrown wa dq osq))
  have OX1 := Lib.hid (OX0.out.on (below_regrown wa dq osq))
  have HB1 := Lib.hid (HB0.out.trans ((below_regrown wa dq osq).mono HB0.out.size))
  have hg1 : w.heap.size < (grow (redrawn wa dq) osq).heap.size := Nat.lt_of_lt_of_le hg0 (below_regrown wa dq osq).size
  clear HX0 OX0 HB0 hg0
  generalize grow (redrawn wa dq) osq = w1 at *
  -- @P2
  go_upto_region 2 with (fail)
  obtain ⟨a1, ha1⟩ : ∃ b, toB (textK x.self.key) = b := ⟨_, rfl⟩
  have za1 : a1.size ≤ 48 := by rw [← ha1]; rw [toB_size]; exact textK_short _
  obtain ⟨b1, hb1⟩ : ∃ b, toB (textB a1.data.toList) = b := ⟨_, rfl⟩
  have zb1 : b1.size ≤ 100 := by rw [← hb1]; rw [toB_size]; have := textB_len a1.data.toList; rw [← ha1, toB_list] at this; have := textK_short x.self.key; rw [← ha1, toB_list]; omega
  have m1 := refitext_q x.self w1 PX.out.self a1 ha1
  have k1 := reftext_q a1 w1 (by omega) b1 hb1
  have HTb1 : Hid (b1 = toB (textB (textK x.self.key))) := by show _ = _; rw [← hb1, ← ha1, toB_list]
  clear ha1 hb1
  obtain ⟨t2, ht2⟩ : ∃ t, t1 ++ b1 = t := ⟨_, rfl⟩
  have adt2 := add_q t1 b1 t2 ht2 (by omega)
  have zt2 : t2.size ≤ 120 := by rw [← ht2, ByteArray.size_append]; omega
  have HTt2 : Hid (t2 = toB ((numB x.kind.toNat ++ numB x.first.toNat) ++ textB (textK x.self.key))) := by show _ = _; rw [← ht2, HTt1.out, HTb1.out, toB_app]
  clear ht2
  have c1p := fun d os => cell_regrown (op_cells HX1.out).selfp d os
  have c1n := fun d os => cell_regrown (op_cells HX1.out).selfn d os
  obtain ⟨a2, ha2⟩ : ∃ b, toB (textK x.parent.key) = b := ⟨_, rfl⟩
  have za2 : a2.size ≤ 48 := by rw [← ha2]; rw [toB_size]; exact textK_short _
  obtain ⟨b2, hb2⟩ : ∃ b, toB (textB a2.data.toList) = b := ⟨_, rfl⟩
  have zb2 : b2.size ≤ 100 := by rw [← hb2]; rw [toB_size]; have := textB_len a2.data.toList; rw [← ha2, toB_list] at this; have := textK_short x.parent.key; rw [← ha2, toB_list]; omega
  have m2 := refitext_q x.parent w1 PX.out.parent a2 ha2
  have k2 := reftext_q a2 w1 (by omega) b2 hb2
  have HTb2 : Hid (b2 = toB (textB (textK x.parent.key))) := by show _ = _; rw [← hb2, ← ha2, toB_list]
  clear ha2 hb2
  obtain ⟨t3, ht3⟩ : ∃ t, t2 ++ b2 = t := ⟨_, rfl⟩
  have adt3 := add_q t2 b2 t3 ht3 (by omega)
  have zt3 : t3.size ≤ 220 := by rw [← ht3, ByteArray.size_append]; omega
  have HTt3 : Hid (t3 = toB (((numB x.kind.toNat ++ numB x.first.toNat) ++ textB (textK x.self.key)) ++ textB (textK x.parent.key))) := by show _ = _; rw [← ht3, HTt2.out, HTb2.out, toB_app]
  clear ht3
  have c2p := fun d os => cell_regrown (op_cells HX1.out).parentp d os
  have c2n := fun d os => cell_regrown (op_cells HX1.out).parentn d os
  obtain ⟨a3, ha3⟩ : ∃ b, toB (textK x.dst.key) = b := ⟨_, rfl⟩
  have za3 : a3.size ≤ 48 := by rw [← ha3]; rw [toB_size]; exact textK_short _
  obtain ⟨b3, hb3⟩ : ∃ b, toB (textB a3.data.toList) = b := ⟨_, rfl⟩
  have zb3 : b3.size ≤ 100 := by rw [← hb3]; rw [toB_size]; have := textB_len a3.data.toList; rw [← ha3, toB_list] at this; have := textK_short x.dst.key; rw [← ha3, toB_list]; omega
  have m3 := refitext_q x.dst w1 PX.out.dst a3 ha3
  have k3 := reftext_q a3 w1 (by omega) b3 hb3
  have HTb3 : Hid (b3 = toB (textB (textK x.dst.key))) := by show _ = _; rw [← hb3, ← ha3, toB_list]
  clear ha3 hb3
  obtain ⟨t4, ht4⟩ : ∃ t, t3 ++ b3 = t := ⟨_, rfl⟩
  have adt4 := add_q t3 b3 t4 ht4 (by omega)
  have zt4 : t4.size ≤ 320 := by rw [← ht4, ByteArray.size_append]; omega
  have HTt4 : Hid (t4 = toB ((((numB x.kind.toNat ++ numB x.first.toNat) ++ textB (textK x.self.key)) ++ textB (textK x.parent.key)) ++ textB (textK x.dst.key))) := by show _ = _; rw [← ht4, HTt3.out, HTb3.out, toB_app]
  clear ht4
  have c3p := fun d os => cell_regrown (op_cells HX1.out).dstp d os
  have c3n := fun d os => cell_regrown (op_cells HX1.out).dstn d os
  obtain ⟨a4, ha4⟩ : ∃ b, toB (textK x.left.key) = b := ⟨_, rfl⟩
  have za4 : a4.size ≤ 48 := by rw [← ha4]; rw [toB_size]; exact textK_short _
  obtain ⟨b4, hb4⟩ : ∃ b, toB (textB a4.data.toList) = b := ⟨_, rfl⟩
  have zb4 : b4.size ≤ 100 := by rw [← hb4]; rw [toB_size]; have := textB_len a4.data.toList; rw [← ha4, toB_list] at this; have := textK_short x.left.key; rw [← ha4, toB_list]; omega
  have m4 := refitext_q x.left w1 PX.out.left a4 ha4
  have k4 := reftext_q a4 w1 (by omega) b4 hb4
  have HTb4 : Hid (b4 = toB (textB (textK x.left.key))) := by show _ = _; rw [← hb4, ← ha4, toB_list]
  clear ha4 hb4
  obtain ⟨t5, ht5⟩ : ∃ t, t4 ++ b4 = t := ⟨_, rfl⟩
  have adt5 := add_q t4 b4 t5 ht5 (by omega)
  have zt5 : t5.size ≤ 420 := by rw [← ht5, ByteArray.size_append]; omega
  have HTt5 : Hid (t5 = toB (((((numB x.kind.toNat ++ numB x.first.toNat) ++ textB (textK x.self.key)) ++ textB (textK x.parent.key)) ++ textB (textK x.dst.key)) ++ textB (textK x.left.key))) := by show _ = _; rw [← ht5, HTt4.out, HTb4.out, toB_app]
  clear ht5
  have c4p := fun d os => cell_regrown (op_cells HX1.out).leftp d os
  have c4n := fun d os => cell_regrown (op_cells HX1.out).leftn d os
  obtain ⟨a5, ha5⟩ : ∃ b, toB (textK x.right.key) = b := ⟨_, rfl⟩
  have za5 : a5.size ≤ 48 := by rw [← ha5]; rw [toB_size]; exact textK_short _
  obtain ⟨b5, hb5⟩ : ∃ b, toB (textB a5.data.toList) = b := ⟨_, rfl⟩
  have zb5 : b5.size ≤ 100 := by rw [← hb5]; rw [toB_size]; have := textB_len a5.data.toList; rw [← ha5, toB_list] at this; have := textK_short x.right.key; rw [← ha5, toB_list]; omega
  have m5 := refitext_q x.right w1 PX.out.right a5 ha5
  have k5 := reftext_q a5 w1 (by omega) b5 hb5
  have HTb5 : Hid (b5 = toB (textB (textK x.right.key))) := by show _ = _; rw [← hb5, ← ha5, toB_list]
  clear ha5 hb5
  obtain ⟨t6, ht6⟩ : ∃ t, t5 ++ b5 = t := ⟨_, rfl⟩
  have adt6 := add_q t5 b5 t6 ht6 (by omega)
  have zt6 : t6.size ≤ 520 := by rw [← ht6, ByteArray.size_append]; omega
  have HTt6 : Hid (t6 = toB ((((((numB x.kind.toNat ++ numB x.first.toNat) ++ textB (textK x.self.key)) ++ textB (textK x.parent.key)) ++ textB (textK x.dst.key)) ++ textB (textK x.left.key)) ++ textB (textK x.right.key))) := by show _ = _; rw [← ht6, HTt5.out, HTb5.out, toB_app]
  clear ht6
  have c5p := fun d os => cell_regrown (op_cells HX1.out).rightp d os
  have c5n := fun d os => cell_regrown (op_cells HX1.out).rightn d os
  -- @P2b
  refine wp_region_quiet_below (by kernel_rfl) (by kernel_rfl) ?_
  repeat (go_big_quiet_step (first | with_reducible exact m1 _ _ | with_reducible exact k1 _ _ | with_reducible exact m2 _ _ | with_reducible exact k2 _ _ | with_reducible exact m3 _ _ | with_reducible exact k3 _ _ | with_reducible exact m4 _ _ | with_reducible exact k4 _ _ | with_reducible exact m5 _ _ | with_reducible exact k5 _ _))
  refine wpQuiet_nil ?_
  intro _ hw'
  obtain ⟨⟨dq, osq⟩, hw''⟩ := hw'
  subst hw''
  clear m1 k1 c1p c1n adt2 m2 k2 c2p c2n adt3 m3 k3 c3p c3n adt4 m4 k4 c4p c4n adt5 m5 k5 c5p c5n adt6
  have HX2 := Lib.hid (HX1.out.on (below_regrown w1 dq osq))
  have OX2 := Lib.hid (OX1.out.on (below_regrown w1 dq osq))
  have HB2 := Lib.hid (HB1.out.trans ((below_regrown w1 dq osq).mono HB1.out.size))
  have hg2 : w.heap.size < (grow (redrawn w1 dq) osq).heap.size := Nat.lt_of_lt_of_le hg1 (below_regrown w1 dq osq).size
  clear HX1 OX1 HB1 hg1
  generalize grow (redrawn w1 dq) osq = w2 at *
  -- @P3
  go_upto_region 3 with (fail)
  obtain ⟨b6, hb6⟩ : ∃ b, toB (textB x.name.data.toList) = b := ⟨_, rfl⟩
  have zb6 : b6.size ≤ 1000010 := by rw [← hb6]; rw [toB_size]; have := textB_len x.name.data.toList; have h := PX.out.name; have e : x.name.data.toList.length = x.name.size := (by simp); omega
  have k6 := reftext_q x.name w2 (by have := PX.out.name; omega) b6 hb6
  have HTb6 : Hid (b6 = toB (textB x.name.data.toList)) := hb6.symm
  clear hb6
  obtain ⟨t7, ht7⟩ : ∃ t, t6 ++ b6 = t := ⟨_, rfl⟩
  have adt7 := add_q t6 b6 t7 ht7 (by omega)
  have zt7 : t7.size ≤ 1002010 := by rw [← ht7, ByteArray.size_append]; omega
  have HTt7 : Hid (t7 = toB (((((((numB x.kind.toNat ++ numB x.first.toNat) ++ textB (textK x.self.key)) ++ textB (textK x.parent.key)) ++ textB (textK x.dst.key)) ++ textB (textK x.left.key)) ++ textB (textK x.right.key)) ++ textB x.name.data.toList)) := by show _ = _; rw [← ht7, HTt6.out, HTb6.out, toB_app]
  clear ht7
  have c6 := fun d os => cell_regrown (op_cells HX2.out).name d os
  obtain ⟨b7, hb7⟩ : ∃ b, toB (textB x.dname.data.toList) = b := ⟨_, rfl⟩
  have zb7 : b7.size ≤ 1000010 := by rw [← hb7]; rw [toB_size]; have := textB_len x.dname.data.toList; have h := PX.out.dname; have e : x.dname.data.toList.length = x.dname.size := (by simp); omega
  have k7 := reftext_q x.dname w2 (by have := PX.out.dname; omega) b7 hb7
  have HTb7 : Hid (b7 = toB (textB x.dname.data.toList)) := hb7.symm
  clear hb7
  obtain ⟨t8, ht8⟩ : ∃ t, t7 ++ b7 = t := ⟨_, rfl⟩
  have adt8 := add_q t7 b7 t8 ht8 (by omega)
  have zt8 : t8.size ≤ 2002020 := by rw [← ht8, ByteArray.size_append]; omega
  have HTt8 : Hid (t8 = toB ((((((((numB x.kind.toNat ++ numB x.first.toNat) ++ textB (textK x.self.key)) ++ textB (textK x.parent.key)) ++ textB (textK x.dst.key)) ++ textB (textK x.left.key)) ++ textB (textK x.right.key)) ++ textB x.name.data.toList) ++ textB x.dname.data.toList)) := by show _ = _; rw [← ht8, HTt7.out, HTb7.out, toB_app]
  clear ht8
  have c7 := fun d os => cell_regrown (op_cells HX2.out).dname d os
  -- @P3b
  refine wp_region_quiet_below (by kernel_rfl) (by kernel_rfl) ?_
  repeat (go_big_quiet_step (first | with_reducible exact k6 _ _ | with_reducible exact k7 _ _))
  refine wpQuiet_nil ?_
  intro _ hw'
  obtain ⟨⟨dq, osq⟩, hw''⟩ := hw'
  subst hw''
  clear k6 c6 adt7 k7 c7 adt8
  have HX3 := Lib.hid (HX2.out.on (below_regrown w2 dq osq))
  have OX3 := Lib.hid (OX2.out.on (below_regrown w2 dq osq))
  have HB3 := Lib.hid (HB2.out.trans ((below_regrown w2 dq osq).mono HB2.out.size))
  have hg3 : w.heap.size < (grow (redrawn w2 dq) osq).heap.size := Nat.lt_of_lt_of_le hg2 (below_regrown w2 dq osq).size
  clear HX2 OX2 HB2 hg2
  generalize grow (redrawn w2 dq) osq = w3 at *
  -- @P4
  have cd := (op_cells HX3.out).dels
  have hl0 := PX.out.few
  go_wp2
  go_loopw [4, 5] (fun v iv wr => ∃ (k : Nat) (ls : List (List UInt8)), iv = .int .i64 (k : Int) ∧ k ≤ x.dels.length ∧ ls.length = k ∧ Hid (ls = (ikeys (x.dels.take k)).map textK) ∧ Hid (OwnS wr w3.heap.size v ls) ∧ Hid (Below w3.heap.size w3 wr)) (fun _ iv _ => x.dels.length - (intOf iv).toNat)
  case atStart => exact ⟨0, [], rfl, Nat.zero_le _, rfl, rfl, OwnS.nil _ _, Below.refl _ _⟩
  case round =>
    obtain ⟨k, ls, rfl, hk, hlk, hls, hown, hbr⟩ := hrel
    have cd2 := (op_cells (HX3.out.on hbr.out)).dels
    clear cd
    by_cases hlt : k < x.dels.length
    · have hD := (OX3.out.on hbr.out).dels
      obtain ⟨b, off, e1, hbB, c0, c1⟩ := ids_get hD hlt
      obtain ⟨s, hs⟩ : ∃ b, toB (textK x.dels[k].key) = b := ⟨_, rfl⟩
      have C := Lib.hid (refitext_any x.dels[k] wr (PX.out.dels _ (List.getElem_mem hlt)))
      unfold Im.val at C
      rw [show toB (textI (fun l => rightB (toB l)) x.dels[k].key) = s from hs] at C
      have hnew : Hid (ls ++ [s.data.toList] = (ikeys (x.dels.take (k + 1))).map textK) := by show _ = _; rw [hls.out, ← hs, toB_list, ikeys_tk x.dels k hlt, List.map_append]; rfl
      have HE := Lib.hid e1
      rw [e1] at cd2
      have u0 : (0 : Int) ≤ (k : Int) := by omega
      have u1 : (k : Int) < (x.dels.length : Int) := by omega
      have hB := hbr.out.size
      have hle : ls.length + [s.data.toList].length ≤ 1000000 := by simp; omega
      generalize x.dels[k] = y at *
      clear hls hs e1 hbB hD
      -- @P5
      go_wp2_with fail
      refine C.out.mono ?_
      rintro e w5 ⟨rfl, hb5⟩
      have HBr := Lib.hid (hbr.out.trans (hb5.mono hB))
      have HO := Lib.hid (show OwnS (w5.alloc (.cells #[.string s] 9)) w3.heap.size _ ls from World.ownsRow.alloc (hown.out.kept hb5) _)
      have hBs : w3.heap.size ≤ (w5.alloc (.cells #[.string s] 9)).heap.size := by have := HBr.out.size; simp; omega
      have HLK := Lib.hid hlk
      clear C hb5 hown hbr cd2 c0 c1 hlk
      -- @P6
      go_wp2_with (at_builtin; refine wpList_append_strs rfl _ _ rfl w3.heap.size _ ls [s.data.toList] rfl HO.out (some ⟨w5.heap.size, 0, none⟩) 1 1 rfl rfl (fun e => by cases e) (strs_one w5 s) hBs hle ?_)
      intro v2 w6 ho2 hg2
      have HB2 : Hid (Below w3.heap.size w3 w6) := below_append (HBr.out.alloc HBr.out.size _) HO.out hg2 (Nat.le_refl _)
      have HO2 := Lib.hid ho2
      clear ho2 hg2 HO HBr
      go_wp2
      go_roundw
      case rel => exact ⟨k + 1, ls ++ [s.data.toList], by go_num, by omega, by have := HLK.out; simp; omega, hnew, HO2.out, HB2.out⟩
      case measure => simp [intOf]; omega
    · have hk2 : k = x.dels.length := by omega
      subst hk2
      obtain ⟨A1, cap1, rfl, hs1, _, _⟩ := hown.out.strs
      have hls2 := hls.out
      rw [List.take_length] at hls2
      have hlen : (textsB ls).length ≤ 116000 := by have h := textsK_len (ikeys x.dels); rw [← hls2] at h; have e : (ikeys x.dels).length = x.dels.length := (by simp [ikeys]); omega
      have HLS := Lib.hid hls2
      have OX4 := Lib.hid (OX3.out.on hbr.out)
      have HX4 := Lib.hid (HX3.out.on hbr.out)
      have HB4 := Lib.hid (HB3.out.trans (hbr.out.mono HB3.out.size))
      have hn1 := numB_len ls.length
      have hn2 := numB_len x.lines.length
      have hn3 := PX.out.bytes
      have hn4 := PX.out.rows
      obtain ⟨p1, hp1⟩ : ∃ b, toB (listB ls) = b := ⟨_, rfl⟩
      obtain ⟨p2, hp2⟩ : ∃ b, toB (listB x.lines) = b := ⟨_, rfl⟩
      have zp1 : p1.size ≤ 116010 := by rw [← hp1, toB_size, show listB ls = numB ls.length ++ textsB ls from rfl, List.length_append]; omega
      have zp2 : p2.size ≤ 100000010 := by rw [← hp2, toB_size, show listB x.lines = numB x.lines.length ++ textsB x.lines from rfl, List.length_append]; omega
      have q1 := reflist_q A1 ls ls.length cap1 rfl wr hs1 (by omega) (by omega) p1 hp1
      have q2 := reflist_q x.a2 x.lines x.lines.length x.c2 rfl wr OX4.out.lines (by omega) (by omega) p2 hp2
      have HTp1 : Hid (p1 = toB (listB ls)) := hp1.symm
      have HTp2 : Hid (p2 = toB (listB x.lines)) := hp2.symm
      clear hp1 hp2 hls hls2 hs1 hown
      obtain ⟨t9, ht9⟩ : ∃ t, t8 ++ p1 = t := ⟨_, rfl⟩
      have adt9 := add_q t8 p1 t9 ht9 (by omega)
      have zt9 : t9.size ≤ 3000000 := by rw [← ht9, ByteArray.size_append]; omega
      have HTt9 : Hid (t9 = toB (((((((((numB x.kind.toNat ++ numB x.first.toNat) ++ textB (textK x.self.key)) ++ textB (textK x.parent.key)) ++ textB (textK x.dst.key)) ++ textB (textK x.left.key)) ++ textB (textK x.right.key)) ++ textB x.name.data.toList) ++ textB x.dname.data.toList) ++ listB ls)) := by show _ = _; rw [← ht9, HTt8.out, HTp1.out, toB_app]
      clear ht9
      obtain ⟨t10, ht10⟩ : ∃ t, t9 ++ p2 = t := ⟨_, rfl⟩
      have adt10 := add_q t9 p2 t10 ht10 (by omega)
      have zt10 : t10.size ≤ 200000000 := by rw [← ht10, ByteArray.size_append]; omega
      have HTt10 : Hid (t10 = toB ((((((((((numB x.kind.toNat ++ numB x.first.toNat) ++ textB (textK x.self.key)) ++ textB (textK x.parent.key)) ++ textB (textK x.dst.key)) ++ textB (textK x.left.key)) ++ textB (textK x.right.key)) ++ textB x.name.data.toList) ++ textB x.dname.data.toList) ++ listB ls) ++ listB x.lines)) := by show _ = _; rw [← ht10, HTt9.out, HTp2.out, toB_app]
      clear ht10
      have cl := fun d os => cell_regrown (op_cells HX4.out).lines d os
      clear hbr hlen hn1 hn2 hn3 hn4 hlk hk
      -- @P7
      go_upto_region 9 with (fail)
      clear cd2 hl0
      refine wp_region_quiet_below (by kernel_rfl) (by kernel_rfl) ?_
      repeat (go_big_quiet_step (first | with_reducible exact q1 _ _ | with_reducible exact q2 _ _))
      refine wpQuiet_nil ?_
      intro _ hw'
      obtain ⟨⟨dq, osq⟩, hw''⟩ := hw'
      subst hw''
      -- @P8
      go_wp2
      go_ret
      refine ⟨?_, HB4.out.trans ((below_regrown wr dq osq).mono HB4.out.size)⟩
      show Ending.returned (.string (s1 ++ s2 ++ b1 ++ b2 ++ b3 ++ b4 ++ b5 ++ b6 ++ b7 ++ p1 ++ p2)) = _
      rw [HTs1.out, HTs2.out, HTb1.out, HTb2.out, HTb3.out, HTb4.out, HTb5.out, HTb6.out, HTb7.out, HTp1.out, HTp2.out, HLS.out]
      simp only [toB_app, List.append_assoc]
      unfold putO
      simp only [List.append_nil]
      rfl
end Go.Proofs.YtoajckhfnadhjaaGreatDoor
namespace Go.Proofs.YtoajckhfnadhjaaGreatDoor
open Go.RowKit
open Go.Sort
set_option linter.unusedVariables false

theorem okeys_tk (l : List Om) (k : Nat) (h : k < l.length) : okeys (l.take (k + 1)) = okeys (l.take k) ++ [l[k].key] := by
  unfold okeys
  rw [List.take_succ_eq_append_getElem h, List.map_append]
  rfl
set_option maxHeartbeats 8000000 in
set_option maxRecDepth 100000 in
theorem refpput_any (x : Ptm) (w : World) (ox : x.Ok w w.heap.size) (px : x.Pu) :
    Calls Tryz.prog 15 #[x.val] w fun e w' => e = .returned (.string (toB (putP x.key))) ∧ Below w.heap.size w w' := by
  obtain ⟨hb, hx⟩ := pat_box w x
  have OX := Lib.hid (ox.on hb)
  have HX := Lib.hid hx
  have PX := Lib.hid px
  have HB := Lib.hid hb
  clear hb hx ox px
  unfold Ptm.val Ptm.cells
  go_enter Tryz.func15, Tryz.ntmps15
  go_upto_region 1 with (fail)
  generalize (w.alloc (.cells #[.string x.name, .slice x.a1 x.deps.length x.c1, .slice x.a2 x.ops.length x.c2] 25)) = wb at *
  generalize (Value.agg #[.string x.name, .slice x.a1 x.deps.length x.c1, .slice x.a2 x.ops.length x.c2]) = vx
  have hl0 := PX.out.many
  have HNIL : Hid (OwnS wb wb.heap.size (.slice none 0 0) []) := OwnS.nil _ _
  have HG0 : Hid (Below wb.heap.size wb wb) := Below.refl _ _
  go_wp2
  go_loopw [3, 4] (fun v iv wr => ∃ (k : Nat) (ls : List (List UInt8)), iv = .int .i64 (k : Int) ∧ k ≤ x.ops.length ∧ ls.length = k ∧ Hid (ls = (okeys (x.ops.take k)).map putO) ∧ Hid (OwnS wr wb.heap.size v ls) ∧ Hid (Below wb.heap.size wb wr)) (fun _ iv _ => x.ops.length - (intOf iv).toNat)
  case atStart => exact ⟨0, [], rfl, Nat.zero_le _, rfl, rfl, HNIL.out, HG0.out⟩
  case round =>
    clear HNIL HG0
    obtain ⟨k, ls, rfl, hk, hlk, hls, hown, hbr⟩ := hrel
    have c2 := (HX.out.on hbr.out).c2
    by_cases hlt : k < x.ops.length
    · have hD := (OX.out.on hbr.out).ops
      obtain ⟨b, off, e1, hbB, hcx⟩ := hD.1.get hlt
      obtain ⟨s, hs⟩ : ∃ b, toB (putO x.ops[k].key) = b := ⟨_, rfl⟩
      have C := Lib.hid (refoput_any x.ops[k] wr (hD.2 _ (List.getElem_mem hlt)) (PX.out.ops _ (List.getElem_mem hlt)))
      rw [hs] at C
      have hnew : Hid (ls ++ [s.data.toList] = (okeys (x.ops.take (k + 1))).map putO) := by show _ = _; rw [hls.out, ← hs, toB_list, okeys_tk x.ops k hlt, List.map_append]; rfl
      have RX := Lib.hid (op_rngp hcx)
      rw [e1] at c2
      have u0 : (0 : Int) ≤ (k : Int) := by omega
      have u1 : (k : Int) < (x.ops.length : Int) := by omega
      have hB := hbr.out.size
      have hle : ls.length + [s.data.toList].length ≤ 1000000 := by simp; omega
      generalize x.ops[k] = y at *
      clear hls hs e1 hbB hD hcx
      go_wp2_with ((with_reducible refine wpList_load_opr (.tmp 16) b (off + k * 16) y RX.out ?_ ?_ ?_ ?_); rfl; rfl; rfl; simp only [Act.put, List.setIfInBounds_toArray, List.set_cons_zero, List.set_cons_succ])
      refine C.out.mono ?_
      rintro e w5 ⟨rfl, hb5⟩
      have HBr := Lib.hid (hbr.out.trans (hb5.mono hB))
      have HO := Lib.hid (show OwnS (w5.alloc (.cells #[.string s] 9)) wb.heap.size _ ls from World.ownsRow.alloc (hown.out.kept hb5) _)
      have hBs : wb.heap.size ≤ (w5.alloc (.cells #[.string s] 9)).heap.size := by have := HBr.out.size; simp; omega
      have HLK := Lib.hid hlk
      generalize y.val = vy
      clear C hb5 hown hbr c2 hlk RX
      go_wp2_with (at_builtin; refine wpList_append_strs rfl _ _ rfl wb.heap.size _ ls [s.data.toList] rfl HO.out (some ⟨w5.heap.size, 0, none⟩) 1 1 rfl rfl (fun e => by cases e) (strs_one w5 s) hBs hle ?_)
      intro v2 w6 ho2 hg2
      have HB2 : Hid (Below wb.heap.size wb w6) := below_append (HBr.out.alloc HBr.out.size _) HO.out hg2 (Nat.le_refl _)
      have HO2 := Lib.hid ho2
      clear ho2 hg2 HO HBr
      go_wp2
      go_roundw
      case rel => exact ⟨k + 1, ls ++ [s.data.toList], by go_num, by omega, by have := HLK.out; simp; omega, hnew, HO2.out, HB2.out⟩
      case measure => simp [intOf]; omega
    · have hk2 : k = x.ops.length := by omega
      obtain ⟨A1, cap1, rfl, hs1, _, _⟩ := hown.out.strs
      have hls2 : ls = (okeys x.ops).map putO := by have h := hls.out; rw [hk2, List.take_length] at h; exact h
      have HLS := Lib.hid hls2
      have OX4 := Lib.hid (OX.out.on hbr.out)
      have HX4 := Lib.hid (HX.out.on hbr.out)
      have HB4 := Lib.hid (HB.out.trans (hbr.out.mono HB.out.size))
      have hn1 := numB_len ls.length
      have hn2 := numB_len x.deps.length
      have hn3 := PX.out.bytes
      have hn4 := PX.out.few
      have hn5 : (textsB ls).length ≤ 100000000 := by rw [hls2]; exact PX.out.out
      have hn6 := PX.out.name
      obtain ⟨p0, hp0⟩ : ∃ b, toB (textB x.name.data.toList) = b := ⟨_, rfl⟩
      obtain ⟨p1, hp1⟩ : ∃ b, toB (listB x.deps) = b := ⟨_, rfl⟩
      obtain ⟨p2, hp2⟩ : ∃ b, toB (listB ls) = b := ⟨_, rfl⟩
      have zp0 : p0.size ≤ 1000010 := by rw [← hp0, toB_size]; have := textB_len x.name.data.toList; have e : x.name.data.toList.length = x.name.size := (by simp); omega
      have zp1 : p1.size ≤ 100000010 := by rw [← hp1, toB_size, show listB x.deps = numB x.deps.length ++ textsB x.deps from rfl, List.length_append]; omega
      have zp2 : p2.size ≤ 100000010 := by rw [← hp2, toB_size, show listB ls = numB ls.length ++ textsB ls from rfl, List.length_append]; omega
      have q0 := reftext_q x.name wr (by omega) p0 hp0
      have q1 := reflist_q x.a1 x.deps x.deps.length x.c1 rfl wr OX4.out.deps (by omega) (by omega) p1 hp1
      have q2 := reflist_q A1 ls ls.length cap1 rfl wr hs1 (by omega) (by omega) p2 hp2
      have HFT : Hid (p0 ++ p1 ++ p2 = toB (putP x.key)) := by
        show _ = _
        rw [← hp0, ← hp1, ← hp2, toB_app, toB_app, hls2]
        congr 1
        show _ = textB x.name.data.toList ++ (listB x.deps ++ (listB ((okeys x.ops).map putO) ++ []))
        rw [List.append_nil, List.append_assoc]
      have k0 := fun d os => cell_regrown HX4.out.c0 d os
      have k1 := fun d os => cell_regrown HX4.out.c1 d os
      clear hp0 hp1 hp2 hls hls2 hown hbr hs1 OX4 HX4 HX OX HB PX HLS
      go_upto_region 6 with (fail)
      clear hlk hk2 hn1 hn5 hlt hk
      refine wp_region_quiet_below (by kernel_rfl) (by kernel_rfl) ?_
      repeat (go_big_quiet_step (first | with_reducible exact q0 _ _ | with_reducible exact q1 _ _ | with_reducible exact q2 _ _))
      refine wpQuiet_nil ?_
      intro _ hw'
      obtain ⟨⟨dq, osq⟩, hw''⟩ := hw'
      subst hw''
      have HF := Lib.hid (HB4.out.trans ((below_regrown wr dq osq).mono HB4.out.size))
      clear q0 q1 q2 k0 k1 HB4
      generalize grow (redrawn wr dq) osq = wz at *
      go_wp2
      go_ret
      exact ⟨by rw [← HFT.out]; rfl, HF.out⟩
end Go.Proofs.YtoajckhfnadhjaaGreatDoor
namespace Go.Proofs.YtoajckhfnadhjaaGreatDoor
open Go.RowKit
set_option linter.unusedVariables false

set_option maxHeartbeats 1000000 in
set_option maxRecDepth 100000 in
theorem refnone_any (x : Im) (w : World) (r : Bool) (hr : noneI x.key = r) :
    Calls Tryz.prog 90 #[.agg #[.string x.p, .int .i64 x.n]] w fun e w' => e = .returned (.bool r) ∧ Below w.heap.size w w' := by
  obtain ⟨hb, hx⟩ := id_box w x
  have HB := Lib.hid hb
  have x0 := id_c0 hx
  have x1 := id_c1 hx
  have EQ := fun W => eql_id x ⟨⟨#[]⟩, 0⟩ W
  rw [none_iff, hr] at EQ
  clear hb hx hr
  go_enter Tryz.func90, Tryz.ntmps90
  go_wp2
  go_ret
  exact ⟨rfl, HB.out⟩
theorem made_iff (x : Im) : madeI x.key = (okK x.key && !decide (x.p = ⟨#[]⟩)) := by
  unfold madeI
  congr 1
  rw [← decide_not]
  exact decide_eq_decide.2 ⟨fun h e => h (by show x.p.data.toList = []; rw [e]), fun h e => h (bytes_inj (t := ⟨#[]⟩) (by have e2 : x.p.data.toList = [] := e; rw [e2]))⟩
set_option maxHeartbeats 1000000 in
set_option maxRecDepth 100000 in
theorem refmade_any (x : Im) (w : World) (ox : x.p.size ≤ 9223372036854775807) (r : Bool) (hr : madeI x.key = r) :
    Calls Tryz.prog 89 #[.agg #[.string x.p, .int .i64 x.n]] w fun e w' => e = .returned (.bool r) ∧ Below w.heap.size w w' := by
  obtain ⟨hb, hx⟩ := id_box w x
  have HB := Lib.hid hb
  have HX := Lib.hid hx
  have CR := Lib.hid (refiright_any x (w.alloc (.cells #[.string x.p, .int .i64 x.n] 40)) ox)
  rw [made_iff] at hr
  have hok : okI (fun l => rightB (toB l)) x.key = okK x.key := rfl
  rw [hok] at CR
  unfold Im.val at CR
  cases h1 : okK x.key
  · rw [h1] at CR hr
    obtain rfl : r = false := by rw [← hr]; rfl
    clear hb hx hr hok h1
    have x0 := id_c0 HX.out
    have x1 := id_c1 HX.out
    go_enter Tryz.func89, Tryz.ntmps89
    go_wp2_with fail
    refine CR.out.mono ?_
    rintro e w1 ⟨rfl, hb1⟩
    have HF := Lib.hid (HB.out.trans (hb1.mono HB.out.size))
    clear hb1 CR x0 x1
    go_wp2
    go_ret
    exact ⟨rfl, HF.out⟩
  · rw [h1, Bool.true_and] at hr
    rw [h1] at CR
    clear hb hx hok h1
    have x0 := id_c0 HX.out
    have x1 := id_c1 HX.out
    by_cases hp : x.p = ⟨#[]⟩
    · rw [decide_eq_true hp] at hr
      obtain rfl : r = false := hr.symm
      have n1 : (x.p.toList == []) = true := by rw [hp, toList_eq]; rfl
      clear hr hp
      go_enter Tryz.func89, Tryz.ntmps89
      go_wp2_with fail
      refine CR.out.mono ?_
      rintro e w1 ⟨rfl, hb1⟩
      have HF := Lib.hid (HB.out.trans (hb1.mono HB.out.size))
      have x0 := id_c0 (HX.out.on hb1)
      clear hb1 CR x1
      go_wp2
      go_ret
      exact ⟨rfl, HF.out⟩
    · rw [decide_eq_false hp] at hr
      obtain rfl : r = true := hr.symm
      have n1 := str_ne_empty hp
      clear hr hp
      go_enter Tryz.func89, Tryz.ntmps89
      go_wp2_with fail
      refine CR.out.mono ?_
      rintro e w1 ⟨rfl, hb1⟩
      have HF := Lib.hid (HB.out.trans (hb1.mono HB.out.size))
      have x0 := id_c0 (HX.out.on hb1)
      clear hb1 CR x1
      go_wp2
      go_ret
      exact ⟨rfl, HF.out⟩
theorem or_iff (x : Im) (n : Int) : orI x.key n = (madeI x.key || decide (x = ⟨⟨#[]⟩, n⟩)) := by
  unfold orI
  congr 1
  exact decide_eq_decide.2 ⟨fun h => Im.key_inj h, fun h => by rw [h]; rfl⟩
set_option maxHeartbeats 1000000 in
set_option maxRecDepth 100000 in
theorem refor_any (x : Im) (n : Int) (w : World) (ox : x.p.size ≤ 9223372036854775807) (r : Bool) (hr : orI x.key n = r) :
    Calls Tryz.prog 92 #[.agg #[.string x.p, .int .i64 x.n], .int .i64 n] w fun e w' => e = .returned (.bool r) ∧ Below w.heap.size w w' := by
  obtain ⟨hb, hx⟩ := id_box w x
  have HB := Lib.hid hb
  have HX := Lib.hid hx
  have CM := Lib.hid (fun r hr => refmade_any x (w.alloc (.cells #[.string x.p, .int .i64 x.n] 40)) ox r hr)
  rw [or_iff] at hr
  cases h1 : madeI x.key
  · rw [h1, Bool.false_or] at hr
    have CR := Lib.hid (CM.out false h1)
    have EQ := fun W => eql_id x ⟨⟨#[]⟩, n⟩ W
    rw [hr] at EQ
    clear hb hx hr h1 CM
    have x0 := id_c0 HX.out
    have x1 := id_c1 HX.out
    go_enter Tryz.func92, Tryz.ntmps92
    go_wp2_with fail
    refine CR.out.mono ?_
    rintro e w1 ⟨rfl, hb1⟩
    have HF := Lib.hid (HB.out.trans (hb1.mono HB.out.size))
    have x0 := id_c0 (HX.out.on hb1)
    have x1 := id_c1 (HX.out.on hb1)
    clear hb1 CR
    go_wp2
    go_ret
    exact ⟨rfl, HF.out⟩
  · rw [h1, Bool.true_or] at hr
    obtain rfl : r = true := hr.symm
    have CR := Lib.hid (CM.out true h1)
    clear hb hx hr h1 CM
    have x0 := id_c0 HX.out
    have x1 := id_c1 HX.out
    go_enter Tryz.func92, Tryz.ntmps92
    go_wp2_with fail
    refine CR.out.mono ?_
    rintro e w1 ⟨rfl, hb1⟩
    have HF := Lib.hid (HB.out.trans (hb1.mono HB.out.size))
    clear hb1 CR x0 x1
    go_wp2
    go_ret
    exact ⟨rfl, HF.out⟩
end Go.Proofs.YtoajckhfnadhjaaGreatDoor
namespace Go.Proofs.YtoajckhfnadhjaaGreatDoor
open Go.RowKit
set_option linter.unusedVariables false

theorem decode_tail (s : ByteArray) (i : Nat) (h : i < s.size) (w : World) (hT : Tabs w) :
    Calls Tryz.prog 170 #[.string (s.extract i s.size)] w fun e w' => e = .returned (.tuple #[.int .i32 (Utf8.decode s i).1, .int .i64 (Utf8.decode s i).2]) ∧ Below w.heap.size w w' := by
  have h1 := Tryz.utf8_DecodeRuneInString (s.extract i s.size) w hT
  rw [decodeGo_tail s i h] at h1
  exact h1

set_option maxRecDepth 100000 in
theorem refline_any (s : ByteArray) (w : World) (hs : s.size ≤ 9223372036854775807) (hT : Tabs w) :
    Calls Tryz.prog 146 #[.string s] w fun e w' => e = .returned (.bool (lineB s)) ∧ Below w.heap.size w w' := by
  by_cases h2 : 200 < s.size
  · have hr : lineB s = false := by simp [lineB]; omega
    rw [hr]
    go_enter Tryz.func146, Tryz.ntmps146
    go_wp2
    go_ret
    exact ⟨rfl, Below.refl _ _⟩
  · have hr : Hid (lineB s = runes s 0) := by show _ = _; simp [lineB]; omega
    have HT := Lib.hid hT
    clear hT
    go_enter Tryz.func146, Tryz.ntmps146
    go_wp2
    go_loopw [3] (fun i wr => ∃ k : Nat, k ≤ s.size + 4 ∧ i = .int .i64 (k : Int) ∧ Hid (runes s 0 = runes s k) ∧ Below w.heap.size w wr) (fun i _ => s.size - (intOf i).toNat)
    case atStart => exact ⟨0, Nat.zero_le _, rfl, rfl, Below.refl _ _⟩
    case round =>
      obtain ⟨k, hk, rfl, heq, hb⟩ := hrel
      by_cases hlt : k < s.size
      · have hc := Lib.hid (decode_tail s k hlt wr (HT.out.on hb))
        have hp := decode_pos s k
        have hp2 := decode_le s k
        have hp3 := decode_rune s k
        have hg := runes_good (s := s) (i := k) hlt
        have hbad := runes_bad (s := s) (i := k) hlt
        obtain ⟨r, n, hd⟩ : ∃ r n, Utf8.decode s k = (r, n) := ⟨_, _, rfl⟩
        rw [hd] at hc hp hp2 hp3 hg hbad
        simp only at hc hp hp2 hp3 hg
        clear hd
        cases hbr : badRune (r, n) with
        | true =>
          have hno : Hid (lineB s = false) := by show _ = _; rw [hr.out, heq.out]; exact hbad hbr
          clear hg hbad heq hr
          have hbc : (r = 65533 ∧ n = 1) ∨ (r < 32 ∧ r ≠ 9) := by simpa [badRune] using hbr
          clear hbr
          rcases hbc with ⟨rfl, rfl⟩ | ⟨b1, b2⟩
          · go_wp2_with (go_at_call 170; refine hc.out.mono ?_; rintro e w1 ⟨rfl, hb1⟩)
            go_ret
            rw [hno.out]
            exact ⟨rfl, hb.trans (hb1.mono hb.size)⟩
          · have q1 : ((r : Int) == 65533) = false := by rw [beq_eq_false_iff_ne]; omega
            have q2 : (r : Int) < 32 := by omega
            have q3 : ((r : Int) != 9) = true := by simp; omega
            go_wp2_with (go_at_call 170; refine hc.out.mono ?_; rintro e w1 ⟨rfl, hb1⟩)
            go_ret
            rw [hno.out]
            exact ⟨rfl, hb.trans (hb1.mono hb.size)⟩
        | false =>
          have hok : Hid (runes s 0 = runes s (k + n)) := by show _ = _; rw [heq.out]; exact hg hbr
          clear hg hbad heq
          have hgc : ¬ (r = 65533 ∧ n = 1) ∧ ¬ (r < 32 ∧ r ≠ 9) := by
            have := hbr
            simp [badRune] at this
            omega
          clear hbr
          obtain ⟨g1, g2⟩ := hgc
          by_cases e1 : r = 65533
          · subst e1
            have q2 : ((n : Int) == 1) = false := by rw [beq_eq_false_iff_ne]; omega
            go_wp2_with (go_at_call 170; refine hc.out.mono ?_; rintro e w1 ⟨rfl, hb1⟩)
            have hb2 := hb.trans (hb1.mono hb.size)
            go_roundw
            case rel => exact ⟨k + n, by omega, by go_num, hok, hb2⟩
            case measure => simp [intOf]; omega
          · have q1 : ((r : Int) == 65533) = false := by rw [beq_eq_false_iff_ne]; omega
            by_cases e2 : r = 9
            · subst e2
              go_wp2_with (go_at_call 170; refine hc.out.mono ?_; rintro e w1 ⟨rfl, hb1⟩)
              have hb2 := hb.trans (hb1.mono hb.size)
              go_roundw
              case rel => exact ⟨k + n, by omega, by go_num, hok, hb2⟩
              case measure => simp [intOf]; omega
            · have q2 : ¬ (r : Int) < 32 := by omega
              go_wp2_with (go_at_call 170; refine hc.out.mono ?_; rintro e w1 ⟨rfl, hb1⟩)
              have hb2 := hb.trans (hb1.mono hb.size)
              go_roundw
              case rel => exact ⟨k + n, by omega, by go_num, hok, hb2⟩
              case measure => simp [intOf]; omega
      · have hfin : Hid (lineB s = true) := by show _ = _; rw [hr.out, heq.out]; exact runes_end hlt
        clear heq hr
        go_wp2
        go_ret
        rw [hfin.out]
        exact ⟨rfl, hb⟩

set_option maxRecDepth 100000 in
theorem refcheck_any (A : Option Addr) (ss : List ByteArray) (cap : Nat) (w : World) (hs : Strs w w.heap.size A ss) (hn : ss.length ≤ 9223372036854775807) (hz : ∀ s ∈ ss, s.size ≤ 9223372036854775807) (hT : Tabs w) :
    Calls Tryz.prog 115 #[.slice A ss.length cap] w fun e w' => e = .returned (.int .i64 (checkN ss)) ∧ Below w.heap.size w w' := by
  by_cases h2 : 2000 < ss.length
  · rw [checkN_big h2]
    go_enter Tryz.func115, Tryz.ntmps115
    go_wp2
    go_ret
    exact ⟨rfl, Below.refl _ _⟩
  · have HT := Lib.hid hT
    have HS := Lib.hid hs
    have HZ := Lib.hid hz
    clear hT hs hz
    go_enter Tryz.func115, Tryz.ntmps115
    go_wp2
    go_loopw [3] (fun i wr => ∃ k : Nat, k ≤ ss.length ∧ i = .int .i64 (k : Int) ∧ Hid (∀ j (hj : j < ss.length), j < k → lineB ss[j] = true) ∧ Below w.heap.size w wr) (fun i _ => ss.length - (intOf i).toNat)
    case atStart => exact ⟨0, Nat.zero_le _, rfl, fun j _ h => absurd h (by omega), Below.refl _ _⟩
    case round =>
      obtain ⟨k, hk, rfl, hall, hb⟩ := hrel
      by_cases hlt : k < ss.length
      · obtain ⟨g, off, rfl, hg, hc⟩ := (HS.out.below hb).at_ hlt
        have hl := Lib.hid (refline_any ss[k] wr (HZ.out _ (List.getElem_mem _)) (HT.out.on hb))
        cases hx : lineB ss[k] with
        | true =>
          have hall2 : Hid (∀ j (hj : j < ss.length), j < k + 1 → lineB ss[j] = true) := by
            intro j hj hjk
            by_cases h : j = k
            · subst h; exact hx
            · exact hall.out j hj (by omega)
          rw [hx] at hl
          generalize ss[k] = s at *
          clear hall hx
          go_wp2_with (go_at_call 146; refine hl.out.mono ?_; rintro e w1 ⟨rfl, hb1⟩)
          have hb2 := hb.trans (hb1.mono hb.size)
          go_roundw
          case rel => exact ⟨k + 1, by omega, by go_num, hall2, hb2⟩
          case measure => simp [intOf]; omega
        | false =>
          have hno : Hid (checkN ss = 6) := checkN_bad h2 hlt hx
          rw [hx] at hl
          generalize ss[k] = s at *
          clear hall hx
          go_wp2_with (go_at_call 146; refine hl.out.mono ?_; rintro e w1 ⟨rfl, hb1⟩)
          go_ret
          rw [hno.out]
          exact ⟨rfl, hb.trans (hb1.mono hb.size)⟩
      · have hk2 : k = ss.length := by omega
        subst hk2
        have hyes : Hid (checkN ss = 0) := checkN_ok h2 fun j hj => hall.out j hj hj
        clear hall
        go_wp2
        go_ret
        rw [hyes.out]
        exact ⟨rfl, hb⟩

end Go.Proofs.YtoajckhfnadhjaaGreatDoor
