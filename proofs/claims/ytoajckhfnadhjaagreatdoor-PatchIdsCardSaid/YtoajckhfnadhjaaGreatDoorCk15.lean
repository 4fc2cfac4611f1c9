/- Package op: Put. Patches, plainly and as they lie: how many bytes, ids and rows there may be. -/
import Derived.BigRegion
import Derived.Deep.RegionWith
import Derived.BigQuiet
import Derived.Deep.QuietTactic
import Derived.Handy
import Derived.Deep.CutRange
import Derived.ChangeOld
import Derived.SliceStrings
import Derived.WideShapes
import Derived.Deep.Slices
import Derived.Deep.Fields
import Derived.ChangeSame
import Derived.ChangeArms
import Derived.SizedLaws
import Derived.Test.YtoajckhfnadhjaaGreatDoorCk14
namespace Go.Proofs.YtoajckhfnadhjaaGreatDoor
open Go.RowKit
open Go.Sort
set_option linter.unusedVariables false

theorem im_short {x : Im} (h : okK x.key = true) : x.p.size ≤ 1000000 := by
  have h1 := okK_short h
  have e : x.key.1.length = x.p.size := by show x.p.data.toList.length = _; simp
  omega
theorem bytes_len (b : ByteArray) : b.data.toList.length = b.size := by simp
theorem texts_size (l : List (List UInt8)) (h : ∀ x ∈ l, x.length ≤ 200) : (textsB l).length ≤ 210 * l.length := by
  induction l with
  | nil => simp [textsB]
  | cons a l ih =>
    have h1 := textB_len a
    have h2 := h a (by simp)
    have h3 := ih fun x hx => h x (List.mem_cons_of_mem _ hx)
    rw [show textsB (a :: l) = textB a ++ textsB l from rfl, List.length_append, List.length_cons]
    omega
/-- An operation that may be is small. -/
theorem pu_may {x : Om} (h : mayO x.key = true) : x.Pu := by
  obtain ⟨k, f, a1, a2, a3, a4, a5, n1, m1, c1, d1, l1⟩ := op_ok h
  obtain ⟨la, lb⟩ := lines_few l1
  have e1 : x.key.name.length = x.name.size := bytes_len x.name
  have e2 : x.key.dname.length = x.dname.size := bytes_len x.dname
  have e3 : x.key.dels.length = x.dels.length := ikeys_len x.dels
  have hk : 1 ≤ x.kind ∧ x.kind ≤ 5 := k
  exact ⟨⟨by omega, hk.2⟩, f, im_short a1, im_short a2, im_short a3, im_short a4, im_short a5, by omega, by omega, by omega, fun i hi => im_short (d1 i.key (mem_ikeys.2 hi)), by have h4 : x.lines.length ≤ 2000 := la; omega, by have h4 := texts_size x.lines lb; have h5 : x.lines.length ≤ 2000 := la; omega⟩
theorem cnum_q (n : Int) (w : World) (h0 : 0 ≤ n) (h1 : n ≤ 18446744073709551615) (b : ByteArray) (hb : toB (numB n.toNat) = b) (d : Nat) (os : Array Obj) :
    Calls Tryz.prog 84 #[.int .u64 n] (grow (redrawn w d) os) fun e w'' => e = .returned (.string b) ∧ ∃ p : Regrown, w'' = grow (redrawn w p.d) p.os := by
  subst hb
  exact Calls.regrown_of (num_any n _ h0 h1)
theorem ctext_b (s : ByteArray) (w : World) (hs : s.size ≤ 140737488351232) (b : ByteArray) (hb : toB (textB s.data.toList) = b) :
    Calls Tryz.prog 24 #[.string s] w fun e w' => e = .returned (.string b) ∧ Below w.heap.size w w' := by
  subst hb
  exact text_any s w hs
theorem ctext_q (s : ByteArray) (w : World) (hs : s.size ≤ 140737488351232) (b : ByteArray) (hb : toB (textB s.data.toList) = b) (d : Nat) (os : Array Obj) :
    Calls Tryz.prog 24 #[.string s] (grow (redrawn w d) os) fun e w'' => e = .returned (.string b) ∧ ∃ p : Regrown, w'' = grow (redrawn w p.d) p.os := Calls.regrown_of (ctext_b s _ hs b hb)
theorem citext_b (x : Im) (w : World) (hT : Nums w) (hs : x.p.size ≤ 1000000) (b : ByteArray) (hb : toB (textK x.key) = b) :
    Calls Tryz.prog 85 #[.agg #[.string x.p, .int .i64 x.n]] w fun e w' => e = .returned (.string b) ∧ Below w.heap.size w w' := by
  subst hb
  exact idtext_any x w hT hs
theorem clist_q (A : Option Addr) (ls : List (List UInt8)) (n cap : Nat) (hn0 : n = ls.length) (w : World) (hs : Strs w w.heap.size A (toBs ls)) (hn : ls.length ≤ 140737488351232) (hl : (numB ls.length).length + (textsB ls).length ≤ 140737488351232) (b : ByteArray) (hb : toB (listB ls) = b) (d : Nat) (os : Array Obj) :
    Calls Tryz.prog 25 #[.slice A n cap] (grow (redrawn w d) os) fun e w'' => e = .returned (.string b) ∧ ∃ p : Regrown, w'' = grow (redrawn w p.d) p.os := by
  subst hb
  subst hn0
  have h := list_any A (toBs ls) cap (grow (redrawn w d) os) (hs.on (below_regrown w d os)) (by rw [toBs_len]; exact hn) (by rw [toBs_len, lists_toBs]; exact hl)
  rw [toBs_len, lists_toBs] at h
  exact Calls.regrown_of h
/-- The ids of an operation, in the order in which they are laid. -/
def ids5 (x : Om) : List Im := [x.self, x.parent, x.dst, x.left, x.right]
/-- The bytes of the first n of them. -/
def ids5B (x : Om) (n : Nat) : List UInt8 := textsB ((ikeys ((ids5 x).take n)).map textK)
theorem ids5_succ (x : Om) (n : Nat) (h : n < (ids5 x).length) : ids5B x (n + 1) = ids5B x n ++ textB (textK (ids5 x)[n].key) := by
  unfold ids5B
  rw [List.take_succ_eq_append_getElem h]
  simp only [ikeys, List.map_append, List.map_cons, List.map_nil, textsB_append]
  simp [textsB]
theorem ids5_small {x : Om} (p : x.Pu) (n : Nat) (h : n < (ids5 x).length) : (ids5 x)[n].p.size ≤ 1000000 := by
  have key : ∀ i ∈ ids5 x, i.p.size ≤ 1000000 := by
    intro i hi
    simp only [ids5, List.mem_cons, List.not_mem_nil, or_false] at hi
    rcases hi with rfl | rfl | rfl | rfl | rfl
    · exact p.self
    · exact p.parent
    · exact p.dst
    · exact p.left
    · exact p.right
  exact key _ (List.getElem_mem h)
theorem index5 (x : Om) (n : Nat) (h : n < (ids5 x).length) (W : World) : (Instr.index 85 (.agg (five x.self x.parent x.dst x.left x.right)) (.int .i64 (n : Int))).run Tryz.prog W = .ok (.agg #[.string (ids5 x)[n].p, .int .i64 (ids5 x)[n].n]) W := by
  obtain ⟨i, hi⟩ := info_id
  have hs : (sizeOf 40).run Tryz.prog W = .ok 2 W := by rw [run_sizeOf W hi, cells_id]
  have h5 : n < 5 := h
  have hc : n = 0 ∨ n = 1 ∨ n = 2 ∨ n = 3 ∨ n = 4 := by omega
  unfold Instr.index
  rcases hc with rfl | rfl | rfl | rfl | rfl <;> simp [Sem.run_bind, run_underlying Tryz.underlying85, asIntOf, hs, part_id, ids5] <;> rfl
set_option maxHeartbeats 8000000 in
set_option maxRecDepth 100000 in
theorem opcheckr_any (x : Om) (w : World) (ox : x.Ok w w.heap.size) (sx : x.Sz) (hT : Tabs w) (r : Int) (hr : (if mayO x.key = true then 0 else 2) = r) :
    Calls Tryz.prog 83 #[.agg #[.int .i64 x.kind, .string x.self.p, .int .i64 x.self.n, .string x.parent.p, .int .i64 x.parent.n, .string x.dst.p, .int .i64 x.dst.n, .string x.name, .string x.dname, .string x.left.p, .int .i64 x.left.n, .string x.right.p, .int .i64 x.right.n, .slice x.a1 x.dels.length x.c1, .int .i64 x.first, .slice x.a2 x.lines.length x.c2]] w fun e w' => e = .returned (.int .i64 r) ∧ Below w.heap.size w w' := by
  subst hr
  exact opcheck_any x w ox sx hT
set_option maxHeartbeats 8000000 in
set_option maxRecDepth 100000 in
theorem opput_no (x : Om) (w : World) (ox : x.Ok w w.heap.size) (sx : x.Sz) (hT : Tabs w) (h : mayO x.key = false) :
    Calls Tryz.prog 57 #[.agg #[.int .i64 x.kind, .string x.self.p, .int .i64 x.self.n, .string x.parent.p, .int .i64 x.parent.n, .string x.dst.p, .int .i64 x.dst.n, .string x.name, .string x.dname, .string x.left.p, .int .i64 x.left.n, .string x.right.p, .int .i64 x.right.n, .slice x.a1 x.dels.length x.c1, .int .i64 x.first, .slice x.a2 x.lines.length x.c2]] w fun e w' => e = .returned (.tuple #[.string ⟨#[]⟩, .int .i64 2]) ∧ Below w.heap.size w w' := by
  obtain ⟨hb, hx⟩ := op_box w x
  have HX := Lib.hid hx
  have HF := Lib.hid hb
  have C := Lib.hid (opcheckr_any x (w.alloc (.cells #[.int .i64 x.kind, .string x.self.p, .int .i64 x.self.n, .string x.parent.p, .int .i64 x.parent.n, .string x.dst.p, .int .i64 x.dst.n, .string x.name, .string x.dname, .string x.left.p, .int .i64 x.left.n, .string x.right.p, .int .i64 x.right.n, .slice x.a1 x.dels.length x.c1, .int .i64 x.first, .slice x.a2 x.lines.length x.c2] 42)) (ox.on hb) sx (Tabs.on hT hb) 2 (by rw [h]; rfl))
  clear hb hx ox hT h
  go_enter Tryz.func57, Tryz.ntmps57
  go_upto_region 1 with (fail)
  generalize (w.alloc (.cells #[.int .i64 x.kind, .string x.self.p, .int .i64 x.self.n, .string x.parent.p, .int .i64 x.parent.n, .string x.dst.p, .int .i64 x.dst.n, .string x.name, .string x.dname, .string x.left.p, .int .i64 x.left.n, .string x.right.p, .int .i64 x.right.n, .slice x.a1 x.dels.length x.c1, .int .i64 x.first, .slice x.a2 x.lines.length x.c2] 42)) = wb at *
  have hc := op_cells HX.out
  have c_kind := hc.kind
  have c_selfp := hc.selfp
  have c_selfn := hc.selfn
  have c_parentp := hc.parentp
  have c_parentn := hc.parentn
  have c_dstp := hc.dstp
  have c_dstn := hc.dstn
  have c_name := hc.name
  have c_dname := hc.dname
  have c_leftp := hc.leftp
  have c_leftn := hc.leftn
  have c_rightp := hc.rightp
  have c_rightn := hc.rightn
  have c_dels := hc.dels
  have c_first := hc.first
  have c_lines := hc.lines
  clear hc
  go_wp2_with fail
  refine C.out.mono ?_
  rintro e w1 ⟨rfl, hb⟩
  have HF1 := Lib.hid (HF.out.trans (hb.mono HF.out.size))
  clear hb C HX c_kind c_selfp c_selfn c_parentp c_parentn c_dstp c_dstn c_name c_dname c_leftp c_leftn c_rightp c_rightn c_dels c_first c_lines
  go_wp2
  go_ret2
  exact ⟨rfl, HF1.out⟩
set_option maxHeartbeats 8000000 in
set_option maxRecDepth 100000 in
theorem opput_yes (x : Om) (w : World) (ox : x.Ok w w.heap.size) (sx : x.Sz) (hT : Tabs w) (hN : Nums w) (h : mayO x.key = true) :
    Calls Tryz.prog 57 #[.agg #[.int .i64 x.kind, .string x.self.p, .int .i64 x.self.n, .string x.parent.p, .int .i64 x.parent.n, .string x.dst.p, .int .i64 x.dst.n, .string x.name, .string x.dname, .string x.left.p, .int .i64 x.left.n, .string x.right.p, .int .i64 x.right.n, .slice x.a1 x.dels.length x.c1, .int .i64 x.first, .slice x.a2 x.lines.length x.c2]] w fun e w' => e = .returned (.tuple #[.string (toB (putO x.key)), .int .i64 0]) ∧ Below w.heap.size w w' := by
  obtain ⟨hb, hx⟩ := op_box w x
  have HX := Lib.hid hx
  have HB0 := Lib.hid hb
  have PX := Lib.hid (pu_may h)
  have OX := Lib.hid (ox.on hb)
  have HN := Lib.hid (hN.on hb)
  have C := Lib.hid (opcheckr_any x (w.alloc (.cells #[.int .i64 x.kind, .string x.self.p, .int .i64 x.self.n, .string x.parent.p, .int .i64 x.parent.n, .string x.dst.p, .int .i64 x.dst.n, .string x.name, .string x.dname, .string x.left.p, .int .i64 x.left.n, .string x.right.p, .int .i64 x.right.n, .slice x.a1 x.dels.length x.c1, .int .i64 x.first, .slice x.a2 x.lines.length x.c2] 42)) (ox.on hb) sx (Tabs.on hT hb) 0 (by rw [h]; rfl))
  have wk : IntKind.u64.wrap x.kind = x.kind := IntWalk.u64_in _ ⟨PX.out.kind.1, by have := PX.out.kind.2; omega⟩
  have wf : IntKind.u64.wrap x.first = x.first := IntWalk.u64_in _ ⟨PX.out.first.1, by have := PX.out.first.2; omega⟩
  clear hb hx ox hT hN h
  go_enter Tryz.func57, Tryz.ntmps57
  go_upto_region 1 with (fail)
  generalize (w.alloc (.cells #[.int .i64 x.kind, .string x.self.p, .int .i64 x.self.n, .string x.parent.p, .int .i64 x.parent.n, .string x.dst.p, .int .i64 x.dst.n, .string x.name, .string x.dname, .string x.left.p, .int .i64 x.left.n, .string x.right.p, .int .i64 x.right.n, .slice x.a1 x.dels.length x.c1, .int .i64 x.first, .slice x.a2 x.lines.length x.c2] 42)) = wb at *
  have hc := op_cells HX.out
  have c_kind := hc.kind
  have c_selfp := hc.selfp
  have c_selfn := hc.selfn
  have c_parentp := hc.parentp
  have c_parentn := hc.parentn
  have c_dstp := hc.dstp
  have c_dstn := hc.dstn
  have c_name := hc.name
  have c_dname := hc.dname
  have c_leftp := hc.leftp
  have c_leftn := hc.leftn
  have c_rightp := hc.rightp
  have c_rightn := hc.rightn
  have c_dels := hc.dels
  have c_first := hc.first
  have c_lines := hc.lines
  clear hc
  go_wp2_with fail
  refine C.out.mono ?_
  rintro e w1 ⟨rfl, hb⟩
  replace HX := Lib.hid (HX.out.on hb)
  replace OX := Lib.hid (OX.out.on hb)
  replace HN := Lib.hid (HN.out.on hb)
  replace HB0 := Lib.hid (HB0.out.trans (hb.mono HB0.out.size))
  clear hb C c_kind c_selfp c_selfn c_parentp c_parentn c_dstp c_dstn c_name c_dname c_leftp c_leftn c_rightp c_rightn c_dels c_first c_lines
  go_upto_region 4 with (fail)
  -- @P1
  obtain ⟨s1, hs1⟩ : ∃ b, toB (numB x.kind.toNat) = b := ⟨_, rfl⟩
  have zs1 : s1.size ≤ 10 := by rw [← hs1]; rw [toB_size]; exact numB_len _
  obtain ⟨s2, hs2⟩ : ∃ b, toB (numB x.first.toNat) = b := ⟨_, rfl⟩
  have zs2 : s2.size ≤ 10 := by rw [← hs2]; rw [toB_size]; exact numB_len _
  have n1 := cnum_q x.kind w1 PX.out.kind.1 (by have := PX.out.kind.2; omega) s1 hs1
  have n2 := cnum_q x.first w1 PX.out.first.1 (by have := PX.out.first.2; omega) s2 hs2
  obtain ⟨t1, ht1⟩ : ∃ t, s1 ++ s2 = t := ⟨_, rfl⟩
  have adt1 := add_q s1 s2 t1 ht1 (by omega)
  have zt1 : t1.size ≤ 20 := by rw [← ht1, ByteArray.size_append]; omega
  have HT1 : Hid (s1 ++ s2 = toB (numB x.kind.toNat ++ numB x.first.toNat) ∧ (s1 ++ s2).size ≤ 20) := ⟨by rw [← hs1, ← hs2, toB_app], by rw [ByteArray.size_append]; omega⟩
  clear ht1 hs1 hs2
  have ck := fun d os => cell_regrown (op_cells HX.out).kind d os
  have cf := fun d os => cell_regrown (op_cells HX.out).first d os
  refine wp_region_quiet_below (by kernel_rfl) (by kernel_rfl) ?_
  repeat (go_big_quiet_step (first | with_reducible exact n1 _ _ | with_reducible exact n2 _ _))
  refine wpQuiet_nil ?_
  intro _ hw'
  obtain ⟨⟨dq, osq⟩, hw''⟩ := hw'
  subst hw''
  clear n1 n2 ck cf adt1 wk wf zs1 zs2
  have hbq := below_regrown w1 dq osq
  replace HX := Lib.hid (HX.out.on hbq)
  replace OX := Lib.hid (OX.out.on hbq)
  replace HN := Lib.hid (HN.out.on hbq)
  replace HB0 := Lib.hid (HB0.out.trans (hbq.mono HB0.out.size))
  clear hbq
  generalize grow (redrawn w1 dq) osq = w2 at *
  -- @P2
  have CI := Lib.hid (opids_any x w2)
  have hc := op_cells HX.out
  have c_kind := hc.kind
  have c_selfp := hc.selfp
  have c_selfn := hc.selfn
  have c_parentp := hc.parentp
  have c_parentn := hc.parentn
  have c_dstp := hc.dstp
  have c_dstn := hc.dstn
  have c_name := hc.name
  have c_dname := hc.dname
  have c_leftp := hc.leftp
  have c_leftn := hc.leftn
  have c_rightp := hc.rightp
  have c_rightn := hc.rightn
  have c_dels := hc.dels
  have c_first := hc.first
  have c_lines := hc.lines
  clear hc
  go_wp2_with fail
  refine CI.out.mono ?_
  rintro e w3 ⟨rfl, hb⟩
  replace HX := Lib.hid (HX.out.on hb)
  replace OX := Lib.hid (OX.out.on hb)
  replace HN := Lib.hid (HN.out.on hb)
  replace HB0 := Lib.hid (HB0.out.trans (hb.mono HB0.out.size))
  clear hb CI c_kind c_selfp c_selfn c_parentp c_parentn c_dstp c_dstn c_name c_dname c_leftp c_leftn c_rightp c_rightn c_dels c_first c_lines
  have HG : Hid (Below w3.heap.size w3 w3) := Below.refl _ _
  have hl5 : (ids5 x).length = 5 := rfl
  have HL5 := Lib.hid hl5
  clear hl5
  -- @P3
  go_wp2
  go_loopw [5, 27] (fun sv iv wr => ∃ (k : Nat) (t : ByteArray), k ≤ 5 ∧ iv = .int .i64 (k : Int) ∧ sv = .string t ∧ Hid (t = toB ((numB x.kind.toNat ++ numB x.first.toNat) ++ ids5B x k)) ∧ t.size ≤ 20 + 100 * k ∧ Hid (Below w3.heap.size w3 wr)) (fun _ iv _ => 5 - (intOf iv).toNat)
  case atStart => exact ⟨0, s1 ++ s2, by omega, rfl, rfl, by show _ = _; rw [HT1.out.1]; simp [ids5B, ikeys, textsB], by have := HT1.out.2; omega, HG.out⟩
  case round =>
    clear HG HT1 zt1
    obtain ⟨k, t, hk, rfl, rfl, ht, hz, hbr⟩ := hrel
    by_cases hlt : k < 5
    · have hk5 : k < (ids5 x).length := by have := HL5.out; omega
      have IX := index5 x k hk5
      have hsm := ids5_small PX.out k hk5
      obtain ⟨a1, ha1⟩ : ∃ b, toB (textK (ids5 x)[k].key) = b := ⟨_, rfl⟩
      have za1 : a1.size ≤ 48 := by rw [← ha1]; rw [toB_size]; exact textK_short _
      obtain ⟨b1, hb1⟩ : ∃ b, toB (textB a1.data.toList) = b := ⟨_, rfl⟩
      have zb1 : b1.size ≤ 100 := by rw [← hb1]; rw [toB_size]; have := textB_len a1.data.toList; rw [← ha1, toB_list] at this; have := textK_short (ids5 x)[k].key; rw [← ha1, toB_list]; omega
      obtain ⟨t2, ht2⟩ : ∃ u, t ++ b1 = u := ⟨_, rfl⟩
      have adt := add_q t b1 t2 ht2 (by omega)
      have HT2 : Hid (t ++ b1 = toB ((numB x.kind.toNat ++ numB x.first.toNat) ++ ids5B x (k + 1))) := by show _ = _; rw [ht.out, ← hb1, ← ha1, toB_list, ids5_succ x k hk5, toB_app, ← List.append_assoc]
      have zt2 : Hid ((t ++ b1).size ≤ 20 + 100 * (k + 1)) := by show _ ≤ _; rw [ByteArray.size_append]; omega
      obtain ⟨hbx, hdx⟩ := id_box wr (ids5 x)[k]
      have CT := Lib.hid (fun W (hW : Below wr.heap.size wr W) => citext_b (ids5 x)[k] W (HN.out.on (hbr.out.trans (hW.mono hbr.out.size))) hsm a1 ha1)
      have CX := Lib.hid (fun W => ctext_b a1 W (by omega) b1 hb1)
      have HDX := Lib.hid hdx
      have HBX := Lib.hid hbx
      have u5 : (k : Int) < 5 := by omega
      clear ha1 hb1 ht2 ht hbx hdx hsm
      generalize (ids5 x)[k] = y at *
      go_upto_region 8 with (fail)
      -- @P4
      have y0 := id_c0 HDX.out
      have y1 := id_c1 HDX.out
      generalize (wr.alloc (.cells #[.string y.p, .int .i64 y.n] 40)) = wx at *
      go_wp2_with fail
      refine (CT.out _ HBX.out).mono ?_
      rintro e w4 ⟨rfl, hb4⟩
      have HB4 := Lib.hid (HBX.out.trans (hb4.mono HBX.out.size))
      clear hb4 CT HDX HBX y0 y1
      go_wp2_with fail
      refine (CX.out _).mono ?_
      rintro e w5 ⟨rfl, hb5⟩
      have HB5 := Lib.hid (hbr.out.trans ((HB4.out.trans (hb5.mono HB4.out.size)).mono hbr.out.size))
      clear hb5 CX HB4 IX hbr
      go_wp2
      go_roundw
      case rel => exact ⟨k + 1, t ++ b1, by omega, by go_num, rfl, HT2, zt2.out, HB5⟩
      case measure => simp [intOf]; omega
    · have hk5 : k = 5 := by omega
      have u5 : ¬ (k : Int) < 5 := by omega
      replace HX := Lib.hid (HX.out.on hbr.out)
      replace OX := Lib.hid (OX.out.on hbr.out)
      replace HN := Lib.hid (HN.out.on hbr.out)
      replace HB0 := Lib.hid (HB0.out.trans (hbr.out.mono HB0.out.size))
      have HT6 : Hid (t = toB ((numB x.kind.toNat ++ numB x.first.toNat) ++ ids5B x 5)) := by rw [← hk5]; exact ht
      have zt6 : t.size ≤ 520 := by omega
      clear ht hz hbr hlt hk HL5 hk5
      generalize hwr : wr = w6 at *
      clear hwr
      -- @P5
      have cd := (op_cells HX.out).dels
      have hl0 := PX.out.few
      go_upto_region 12 with (fail)
      clear u5
      generalize (k : Int) = kz at *
      go_wp2
      go_loopw [8, 39] (fun v iv wr => ∃ (k : Nat) (ls : List (List UInt8)), iv = .int .i64 (k : Int) ∧ k ≤ x.dels.length ∧ ls.length = k ∧ Hid (ls = (ikeys (x.dels.take k)).map textK) ∧ Hid (OwnS wr w6.heap.size v ls) ∧ Hid (Below w6.heap.size w6 wr)) (fun _ iv _ => x.dels.length - (intOf iv).toNat)
      case atStart => exact ⟨0, [], rfl, Nat.zero_le _, rfl, rfl, OwnS.nil _ _, Below.refl _ _⟩
      case round =>
        clear cd
        obtain ⟨k, ls, rfl, hk, hlk, hls, hown, hbr⟩ := hrel
        by_cases hlt : k < x.dels.length
        · have hD := (OX.out.on hbr.out).dels
          obtain ⟨b, off, e1, hbB, c0, c1⟩ := ids_get hD hlt
          obtain ⟨s, hs⟩ : ∃ b, toB (textK x.dels[k].key) = b := ⟨_, rfl⟩
          have hsm := PX.out.dels _ (List.getElem_mem hlt)
          have CT := Lib.hid (fun W (hW : Below wr.heap.size wr W) => citext_b x.dels[k] W (HN.out.on (hbr.out.trans (hW.mono hbr.out.size))) hsm s hs)
          obtain ⟨hbx, hdx⟩ := id_box wr x.dels[k]
          have HDX := Lib.hid hdx
          have HBX := Lib.hid hbx
          have hnew : Hid (ls ++ [s.data.toList] = (ikeys (x.dels.take (k + 1))).map textK) := by show _ = _; rw [hls.out, ← hs, toB_list, ikeys_tk x.dels k hlt, List.map_append]; rfl
          have IA := id_indexAt (c := x.c1) e1 hlt
          have u0 : (0 : Int) ≤ (k : Int) := by omega
          have u1 : (k : Int) < (x.dels.length : Int) := by omega
          have hB := hbr.out.size
          have hle : ls.length + [s.data.toList].length ≤ 1000000 := by simp; omega
          generalize x.dels[k] = y at *
          clear hls hs hbB hD hbx hdx hsm e1
          -- @P6
          go_upto_region 14 with (fail)
          have y0 := id_c0 HDX.out
          have y1 := id_c1 HDX.out
          generalize (wr.alloc (.cells #[.string y.p, .int .i64 y.n] 40)) = wx at *
          go_wp2_with fail
          refine (CT.out _ HBX.out).mono ?_
          rintro e w5 ⟨rfl, hb5⟩
          have hb6 := HBX.out.trans (hb5.mono HBX.out.size)
          have HBr := Lib.hid (hbr.out.trans (hb6.mono hB))
          have HO := Lib.hid (show OwnS (w5.alloc (.cells #[.string s] 9)) w6.heap.size _ ls from World.ownsRow.alloc (hown.out.kept hb6) _)
          have hBs : w6.heap.size ≤ (w5.alloc (.cells #[.string s] 9)).heap.size := by have := HBr.out.size; simp; omega
          have HLK := Lib.hid hlk
          clear CT hb5 hb6 hown hbr c0 c1 hlk y0 y1 HDX HBX
          -- @P7
          go_wp2_with (at_builtin; refine wpList_append_strs rfl _ _ rfl w6.heap.size _ ls [s.data.toList] rfl HO.out (some ⟨w5.heap.size, 0, none⟩) 1 1 rfl rfl (fun e => by cases e) (strs_one w5 s) hBs hle ?_)
          intro v2 w7 ho2 hg2
          have HB2 : Hid (Below w6.heap.size w6 w7) := below_append (HBr.out.alloc HBr.out.size _) HO.out hg2 (Nat.le_refl _)
          have HO2 := Lib.hid ho2
          clear ho2 hg2 HO HBr
          go_wp2
          go_roundw
          case rel => exact ⟨k + 1, ls ++ [s.data.toList], by go_num, by omega, by have := HLK.out; simp; omega, hnew, HO2.out, HB2.out⟩
          case measure => simp [intOf]; omega
        · have hk2 : k = x.dels.length := by omega
          subst hk2
          obtain ⟨A1, cap1, rfl, hs1, _, _⟩ := hown.out.strs
          have hls2 := hls.out
          rw [List.take_length] at hls2
          have hlen : (textsB ls).length ≤ 116000 := by have h := textsK_len (ikeys x.dels); rw [← hls2] at h; have e : (ikeys x.dels).length = x.dels.length := (by simp [ikeys]); omega
          have HLS := Lib.hid hls2
          have OX4 := Lib.hid (OX.out.on hbr.out)
          have HX4 := Lib.hid (HX.out.on hbr.out)
          have HB4 := Lib.hid (HB0.out.trans (hbr.out.mono HB0.out.size))
          have hn1 := numB_len ls.length
          have hn2 := numB_len x.lines.length
          have hn3 := PX.out.bytes
          have hn4 := PX.out.rows
          obtain ⟨b6, hb6⟩ : ∃ b, toB (textB x.name.data.toList) = b := ⟨_, rfl⟩
          have zb6 : b6.size ≤ 1000010 := by rw [← hb6]; rw [toB_size]; have := textB_len x.name.data.toList; have h := PX.out.name; have e : x.name.data.toList.length = x.name.size := (by simp); omega
          have q1 := ctext_q x.name wr (by have := PX.out.name; omega) b6 hb6
          obtain ⟨b7, hb7⟩ : ∃ b, toB (textB x.dname.data.toList) = b := ⟨_, rfl⟩
          have zb7 : b7.size ≤ 1000010 := by rw [← hb7]; rw [toB_size]; have := textB_len x.dname.data.toList; have h := PX.out.dname; have e : x.dname.data.toList.length = x.dname.size := (by simp); omega
          have q2 := ctext_q x.dname wr (by have := PX.out.dname; omega) b7 hb7
          obtain ⟨p1, hp1⟩ : ∃ b, toB (listB ls) = b := ⟨_, rfl⟩
          obtain ⟨p2, hp2⟩ : ∃ b, toB (listB x.lines) = b := ⟨_, rfl⟩
          have zp1 : p1.size ≤ 116010 := by rw [← hp1, toB_size, show listB ls = numB ls.length ++ textsB ls from rfl, List.length_append]; omega
          have zp2 : p2.size ≤ 100000010 := by rw [← hp2, toB_size, show listB x.lines = numB x.lines.length ++ textsB x.lines from rfl, List.length_append]; omega
          have q3 := clist_q A1 ls ls.length cap1 rfl wr hs1 (by omega) (by omega) p1 hp1
          have q4 := clist_q x.a2 x.lines x.lines.length x.c2 rfl wr OX4.out.lines (by omega) (by omega) p2 hp2
          have HTb6 : Hid (b6 = toB (textB x.name.data.toList)) := hb6.symm
          have HTb7 : Hid (b7 = toB (textB x.dname.data.toList)) := hb7.symm
          have HTp1 : Hid (p1 = toB (listB ls)) := hp1.symm
          have HTp2 : Hid (p2 = toB (listB x.lines)) := hp2.symm
          clear hp1 hp2 hls hls2 hs1 hown hb6 hb7
          have HV : Hid (t ++ b6 ++ b7 ++ p1 ++ p2 = toB (putO x.key)) := by
            show _ = _
            rw [HT6.out, HTb6.out, HTb7.out, HTp1.out, HTp2.out, HLS.out]
            unfold ids5B ids5 putO
            simp only [toB_app, List.append_assoc, List.take_succ_cons, ikeys, List.map_cons, List.map_nil, textsB, List.append_nil, List.take_nil]
            rfl
          have cn := fun d os => cell_regrown (op_cells HX4.out).name d os
          have cm := fun d os => cell_regrown (op_cells HX4.out).dname d os
          have cl := fun d os => cell_regrown (op_cells HX4.out).lines d os
          clear hlen hn1 hn2 hn3 hn4 hlk hk hbr
          -- @P8
          go_upto_region 16 with (fail)
          refine wp_region_quiet_below (by kernel_rfl) (by kernel_rfl) ?_
          repeat (go_big_quiet_step (first | with_reducible exact q1 _ _ | with_reducible exact q2 _ _ | with_reducible exact q3 _ _ | with_reducible exact q4 _ _))
          refine wpQuiet_nil ?_
          intro _ hw'
          obtain ⟨⟨dq, osq⟩, hw''⟩ := hw'
          subst hw''
          have HBE := Lib.hid (HB4.out.trans ((below_regrown wr dq osq).mono HB4.out.size))
          -- @P9
          go_wp2
          go_ret2
          refine ⟨?_, HBE.out⟩
          show Ending.returned (.tuple #[.string (t ++ b6 ++ b7 ++ p1 ++ p2), .int .i64 0]) = _
          rw [HV.out]
end Go.Proofs.YtoajckhfnadhjaaGreatDoor
namespace Go.Proofs.YtoajckhfnadhjaaGreatDoor
open Go.RowKit
set_option linter.unusedVariables false

theorem pu_sz {x : Om} (h : x.Pu) (hm : mayO x.key = true) : x.Sz := by
  obtain ⟨la, lb⟩ := lines_few (op_ok hm).lines
  exact ⟨by have := h.self; omega, by have := h.parent; omega, by have := h.dst; omega, by have := h.left; omega, by have := h.right; omega, by have := h.name; omega, by have := h.dname; omega, by have := h.few; omega, fun i hi => by have := h.dels i hi; omega, h.rows, fun l hl => by have := lb l hl; omega⟩
theorem texts_ge (l : List (List UInt8)) : l.length ≤ (textsB l).length := by
  induction l with
  | nil => simp [textsB]
  | cons a l ih =>
    have h : 0 < (numB a.length).length := numF_pos 9 a.length
    rw [show textsB (a :: l) = (numB a.length ++ a) ++ textsB l from rfl, List.length_append, List.length_append, List.length_cons]
    omega
theorem list_ge (l : List (List UInt8)) : (textsB l).length ≤ (listB l).length := by
  rw [show listB l = numB l.length ++ textsB l from rfl, List.length_append]
  omega
theorem comes_few (p : List UInt8) (o : OpK) : (comesO p o).length ≤ 1 + o.lines.length := by
  unfold comesO
  split
  · simp
  · split
    · unfold rowI
      split
      · simp
      · simp
    · simp
theorem made_lines (p : List UInt8) : ∀ l : List OpK, (∀ o ∈ l, o.lines.length ≤ 60) → (madeP p l).length ≤ 61 * l.length
  | [], _ => by simp [madeP]
  | o :: l, h => by
    have h1 := made_lines p l fun q hq => h q (List.mem_cons_of_mem _ hq)
    have h2 := comes_few p o
    have h3 := h o (by simp)
    have e : madeP p (o :: l) = comesO p o ++ madeP p l := by simp [madeP]
    rw [e, List.length_append, List.length_cons]
    omega
theorem deps_le (p : PatK) : p.deps.length ≤ (putP p).length := by
  have h1 := texts_ge p.deps
  have h2 := list_ge p.deps
  unfold putP
  rw [List.append_nil, List.length_append, List.length_append]
  omega
theorem lt_sz {o : Om} (h : o.Lt) (k : o.In) : o.Sz := by
  have hl := light3B_len h.lines
  rw [toBs_len] at hl
  have ha := h.lines
  unfold light3B at ha
  simp only [Bool.and_eq_true, List.all_eq_true, decide_eq_true_eq] at ha
  exact ⟨by have := h.self; omega, by have := h.parent; omega, by have := h.dst; omega, by have := h.left; omega, by have := h.right; omega, by have := h.name; omega, by have := h.dname; omega, by have := h.few; omega, fun i hi => by have := h.dels i hi; omega, by omega, fun l hl => by
    have h1 := ha.1 (toB l) (List.mem_map.2 ⟨l, hl, rfl⟩)
    rw [toB_size] at h1
    omega⟩
theorem lt_lines {o : Om} (h : o.Lt) : o.lines.length ≤ 60 := by
  have hl := light3B_len h.lines
  rwa [toBs_len] at hl
/-- A light patch keeps to the reference's bounds. -/
theorem light_fit {x : Ptm} (h : x.Lt) (k : x.In) : x.Sz ∧ (madeP x.name.data.toList (okeys x.ops)).length ≤ 900000 ∧ OpsFew x.ops := by
  have h1 := h.name
  have h2 := h.few
  have h3 := h.many
  refine ⟨⟨by omega, by omega, fun d hd => by have := h.deps d hd; omega, by omega, fun o ho => lt_sz (h.ops o ho) (k.ops o ho)⟩, ?_, fun o ho => by have h4 := lt_sz (h.ops o ho) (k.ops o ho); exact ⟨h4.few, h4.rows⟩⟩
  have h5 := made_lines x.name.data.toList (okeys x.ops) (fun o ho => by
    obtain ⟨y, hy, rfl⟩ := List.mem_map.1 ho
    exact lt_lines (h.ops y hy))
  rw [okeys_len] at h5
  omega
/-- The bytes of a light patch that may be are few. -/
theorem light_bytes {x : Ptm} (h : x.Lt) (hc : checkP x.key = 0) : (putP x.key).length ≤ 500000 := by
  obtain ⟨hn, hm⟩ := checkP_ok.1 hc
  have h1 := h.name
  have h2 := h.few
  have h3 := h.many
  have t0 := textB_le x.key.name
  have e0 : x.key.name.length = x.name.size := bytes_len x.name
  have t1 := listB_le 100 x.deps h.deps
  have t2 := listB_le 15500 ((okeys x.ops).map putO) (fun s hs => by
    obtain ⟨o, ho, rfl⟩ := List.mem_map.1 hs
    obtain ⟨y, hy, rfl⟩ := List.mem_map.1 ho
    have h4 := (putO_le (may_ops hm y.key (List.mem_map.2 ⟨y, hy, rfl⟩))).1
    have h5 : y.key.dels.length ≤ 40 := by have h6 := (h.ops y hy).few; rwa [show y.key.dels.length = y.dels.length from ikeys_len _]
    have h6 : y.key.lines.length ≤ 60 := lt_lines (h.ops y hy)
    omega)
  rw [List.length_map, okeys_len] at t2
  have e : (putP x.key).length = (textB x.key.name).length + ((listB x.deps).length + (listB ((okeys x.ops).map putO)).length) := by
    unfold putP
    rw [List.append_nil, List.length_append, List.length_append]
    rfl
  omega
end Go.Proofs.YtoajckhfnadhjaaGreatDoor
