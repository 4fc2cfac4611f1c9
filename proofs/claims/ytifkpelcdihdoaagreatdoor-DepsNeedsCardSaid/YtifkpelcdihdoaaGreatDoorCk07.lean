/- Package op: an operation's own parts, its ids in a row; ids held against each other. -/
import Derived.Test.YtifkpelcdihdoaaGreatDoorCk06
namespace Go.Proofs.YtifkpelcdihdoaaGreatDoor
open Go.RowKit
open Go.Sort
set_option linter.unusedVariables false

set_option maxHeartbeats 2000000 in
set_option maxRecDepth 100000 in
theorem opeqid_any (A A2 : Option Addr) (l m : List Im) (cap cap2 : Nat) (w : World) (hs : Ids w w.heap.size A l) (ht : Ids w w.heap.size A2 m) (hn : l.length ≤ 1000000) (hn2 : m.length ≤ 1000000) :
    Calls Tryz.prog 145 #[.slice A l.length cap, .slice A2 m.length cap2] w fun e w' => e = .returned (.bool (decide (l = m))) ∧ Below w.heap.size w w' := by
  by_cases hl : l.length = m.length
  · have Hl := Lib.hid hl
    have hb1 : (((l.length : Int)) != (m.length : Int)) = false := by simp; omega
    have HS := Lib.hid hs
    have HM := Lib.hid ht
    clear hl hs ht
    go_enter Tryz.func145, Tryz.ntmps145
    go_wp2
    go_loopw [13] (fun i wr => ∃ k : Nat, k ≤ l.length ∧ i = .int .i64 (k : Int) ∧ Hid (∀ j (hj : j < l.length) (hj2 : j < m.length), j < k → l[j] = m[j]) ∧ Hid (Below w.heap.size w wr)) (fun i _ => l.length - (intOf i).toNat)
    case atStart => exact ⟨0, Nat.zero_le _, rfl, fun j _ _ h => absurd h (by omega), Below.refl _ _⟩
    case round =>
      obtain ⟨k, hk, rfl, hall, hbr⟩ := hrel
      by_cases hlt : k < l.length
      · have hlt2 : k < m.length := by have := Hl.out; omega
        obtain ⟨g, off, rfl, _, c0, c1⟩ := ids_get (HS.out.on hbr.out) hlt
        obtain ⟨g2, off2, rfl, _, d0, d1⟩ := ids_get (HM.out.on hbr.out) hlt2
        have hq : ∀ q, Hid (Below w.heap.size w (wr.drewN q)) := fun q => below_drewN hbr.out q
        have EQ := fun W => neq_id l[k] m[k] W
        by_cases he : l[k] = m[k]
        · rw [decide_eq_true he, Bool.not_true] at EQ
          have hnew : Hid (∀ j (hj : j < l.length) (hj2 : j < m.length), j < k + 1 → l[j] = m[j]) := fun j hj hj2 hjk => by
            by_cases h : j = k
            · subst h; exact he
            · exact hall.out j hj hj2 (by omega)
          generalize l[k] = y at *
          generalize m[k] = z at *
          clear hall hbr he
          go_wp2
          go_quiet (fail)
          go_wp2
          go_roundw
          case rel => exact ⟨k + 1, by omega, by go_num, hnew, hq _⟩
          case measure => simp [intOf]; omega
        · rw [decide_eq_false he, Bool.not_false] at EQ
          have hno : Hid (decide (l = m) = false) := decide_eq_false fun h => by subst h; exact he rfl
          generalize l[k] = y at *
          generalize m[k] = z at *
          clear hall hbr he
          go_wp2
          go_quiet (fail)
          go_wp2
          go_ret
          rw [hno.out]
          exact ⟨rfl, (hq _).out⟩
      · obtain rfl : k = l.length := by omega
        have hyes : Hid (decide (l = m) = true) := decide_eq_true (List.ext_getElem Hl.out fun j h1 h2 => hall.out j h1 h2 h1)
        clear hall
        go_wp2
        go_ret
        rw [hyes.out]
        exact ⟨rfl, hbr.out⟩
  · have hno : Hid (decide (l = m) = false) := decide_eq_false fun h => hl (by rw [h])
    have hb1 : (((l.length : Int)) != (m.length : Int)) = true := by simp; omega
    have HB : Hid (Below w.heap.size w w) := Below.refl _ _
    clear hs ht hl
    go_enter Tryz.func145, Tryz.ntmps145
    go_wp2
    go_ret
    rw [hno.out]
    exact ⟨rfl, HB.out⟩
theorem opeqidk_any (A A2 : Option Addr) (l m : List Im) (cap cap2 : Nat) (w : World) (hs : Ids w w.heap.size A l) (ht : Ids w w.heap.size A2 m) (hn : l.length ≤ 1000000) (hn2 : m.length ≤ 1000000) (r : Bool) (hr : decide (l = m) = r) :
    Calls Tryz.prog 145 #[.slice A l.length cap, .slice A2 m.length cap2] w fun e w' => e = .returned (.bool r) ∧ Below w.heap.size w w' := by
  subst hr
  exact opeqid_any A A2 l m cap cap2 w hs ht hn hn2
theorem oplsame_any (A A2 : Option Addr) (la lc : List (List UInt8)) (cap cap2 : Nat) (w : World) (hs : Strs w w.heap.size A (toBs la)) (ht : Strs w w.heap.size A2 (toBs lc)) (hn : la.length ≤ 900000) (hn2 : lc.length ≤ 900000) (r : Bool) (hr : decide (la = lc) = r) :
    Calls Tryz.prog 146 #[.slice A la.length cap, .slice A2 lc.length cap2] w fun e w' => e = .returned (.bool r) ∧ Below w.heap.size w w' := by
  refine (lsame_q A A2 la lc cap cap2 w r hr hs ht (by omega) (by omega)).mono ?_
  rintro e w' ⟨rfl, q, rfl⟩
  exact ⟨rfl, (below_drewN (Below.refl _ w) q)⟩
set_option maxHeartbeats 4000000 in
set_option maxRecDepth 100000 in
theorem opids_any (x : Om) (w : World) :
    Calls Tryz.prog 144 #[.agg #[.int .i64 x.kind, .string x.self.p, .int .i64 x.self.n, .string x.parent.p, .int .i64 x.parent.n, .string x.dst.p, .int .i64 x.dst.n, .string x.name, .string x.dname, .string x.left.p, .int .i64 x.left.n, .string x.right.p, .int .i64 x.right.n, .slice x.a1 x.dels.length x.c1, .int .i64 x.first, .slice x.a2 x.lines.length x.c2]] w fun e w' => e = .returned (.agg (five x.self x.parent x.dst x.left x.right)) ∧ Below w.heap.size w w' := by
  obtain ⟨hb, hx⟩ := op_box w x
  have HX := Lib.hid hx
  have HF := Lib.hid hb
  clear hb hx
  go_enter Tryz.func144, Tryz.ntmps144
  go_upto_region 1 with (fail)
  have hal : Below (w.alloc (.cells #[.int .i64 x.kind, .string x.self.p, .int .i64 x.self.n, .string x.parent.p, .int .i64 x.parent.n, .string x.dst.p, .int .i64 x.dst.n, .string x.name, .string x.dname, .string x.left.p, .int .i64 x.left.n, .string x.right.p, .int .i64 x.right.n, .slice x.a1 x.dels.length x.c1, .int .i64 x.first, .slice x.a2 x.lines.length x.c2] 84)).heap.size (w.alloc (.cells #[.int .i64 x.kind, .string x.self.p, .int .i64 x.self.n, .string x.parent.p, .int .i64 x.parent.n, .string x.dst.p, .int .i64 x.dst.n, .string x.name, .string x.dname, .string x.left.p, .int .i64 x.left.n, .string x.right.p, .int .i64 x.right.n, .slice x.a1 x.dels.length x.c1, .int .i64 x.first, .slice x.a2 x.lines.length x.c2] 84)) ((w.alloc (.cells #[.int .i64 x.kind, .string x.self.p, .int .i64 x.self.n, .string x.parent.p, .int .i64 x.parent.n, .string x.dst.p, .int .i64 x.dst.n, .string x.name, .string x.dname, .string x.left.p, .int .i64 x.left.n, .string x.right.p, .int .i64 x.right.n, .slice x.a1 x.dels.length x.c1, .int .i64 x.first, .slice x.a2 x.lines.length x.c2] 84)).alloc (.cells #[.string ⟨#[]⟩, .int .i64 0, .string ⟨#[]⟩, .int .i64 0, .string ⟨#[]⟩, .int .i64 0, .string ⟨#[]⟩, .int .i64 0, .string ⟨#[]⟩, .int .i64 0] 149)) := (Below.refl _ _).alloc (Nat.le_refl _) _
  have hc := op_cells (HX.out.on hal)
  have c_selfp := hc.selfp
  have c_selfn := hc.selfn
  have c_parentp := hc.parentp
  have c_parentn := hc.parentn
  have c_dstp := hc.dstp
  have c_dstn := hc.dstn
  have c_leftp := hc.leftp
  have c_leftn := hc.leftn
  have c_rightp := hc.rightp
  have c_rightn := hc.rightn
  have hR := heap_alloc_new (w.alloc (.cells #[.int .i64 x.kind, .string x.self.p, .int .i64 x.self.n, .string x.parent.p, .int .i64 x.parent.n, .string x.dst.p, .int .i64 x.dst.n, .string x.name, .string x.dname, .string x.left.p, .int .i64 x.left.n, .string x.right.p, .int .i64 x.right.n, .slice x.a1 x.dels.length x.c1, .int .i64 x.first, .slice x.a2 x.lines.length x.c2] 84)) (.cells (five x.self x.parent x.dst x.left x.right) 149)
  rw [show ((w.alloc (.cells #[.int .i64 x.kind, .string x.self.p, .int .i64 x.self.n, .string x.parent.p, .int .i64 x.parent.n, .string x.dst.p, .int .i64 x.dst.n, .string x.name, .string x.dname, .string x.left.p, .int .i64 x.left.n, .string x.right.p, .int .i64 x.right.n, .slice x.a1 x.dels.length x.c1, .int .i64 x.first, .slice x.a2 x.lines.length x.c2] 84))).heap.size = w.heap.size + 1 by simp] at hR
  have HR := Lib.hid hR
  clear hR
  have HB := Lib.hid (HF.out.trans (((Below.refl _ (w.alloc (.cells #[.int .i64 x.kind, .string x.self.p, .int .i64 x.self.n, .string x.parent.p, .int .i64 x.parent.n, .string x.dst.p, .int .i64 x.dst.n, .string x.name, .string x.dname, .string x.left.p, .int .i64 x.left.n, .string x.right.p, .int .i64 x.right.n, .slice x.a1 x.dels.length x.c1, .int .i64 x.first, .slice x.a2 x.lines.length x.c2] 84))).alloc (Nat.le_refl _) (.cells (five x.self x.parent x.dst x.left x.right) 149)).mono HF.out.size))
  clear hc hal HX HF
  go_wp2
  (try simp only [Exit.inBlock, Exit.then])
  refine bodyPost_ret (ret_five rfl _ _ _ x.self x.parent x.dst x.left x.right rfl HR.out) rfl ?_
  exact ⟨rfl, HB.out⟩
/-- What owned makes. -/
def ownedM (x : Om) : Om :=
  if x.kind = 1 ∨ x.kind = 2 ∨ x.kind = 3 then ⟨x.kind, x.self, x.parent, ⟨⟨#[]⟩, 0⟩, x.name, ⟨#[]⟩, ⟨⟨#[]⟩, 0⟩, ⟨⟨#[]⟩, 0⟩, none, 0, [], 0, none, 0, []⟩
  else if x.kind = 4 then ⟨x.kind, x.self, x.parent, x.dst, x.name, x.dname, ⟨⟨#[]⟩, 0⟩, ⟨⟨#[]⟩, 0⟩, none, 0, [], 0, none, 0, []⟩
  else if x.kind = 5 then ⟨x.kind, x.self, ⟨⟨#[]⟩, 0⟩, ⟨⟨#[]⟩, 0⟩, ⟨#[]⟩, ⟨#[]⟩, x.left, x.right, x.a1, x.c1, x.dels, x.first, x.a2, x.c2, x.lines⟩
  else ⟨0, ⟨⟨#[]⟩, 0⟩, ⟨⟨#[]⟩, 0⟩, ⟨⟨#[]⟩, 0⟩, ⟨#[]⟩, ⟨#[]⟩, ⟨⟨#[]⟩, 0⟩, ⟨⟨#[]⟩, 0⟩, none, 0, [], 0, none, 0, []⟩
theorem ownedM_key (x : Om) : (ownedM x).key = ownedO x.key := by
  unfold ownedM ownedO
  by_cases h1 : x.kind = 1 ∨ x.kind = 2 ∨ x.kind = 3
  · rw [if_pos h1, if_pos (show x.key.kind = 1 ∨ x.key.kind = 2 ∨ x.key.kind = 3 from h1)]
    rfl
  · rw [if_neg h1, if_neg (show ¬ (x.key.kind = 1 ∨ x.key.kind = 2 ∨ x.key.kind = 3) from h1)]
    by_cases h4 : x.kind = 4
    · rw [if_pos h4, if_pos (show x.key.kind = 4 from h4)]
      rfl
    · rw [if_neg h4, if_neg (show ¬ x.key.kind = 4 from h4)]
      by_cases h5 : x.kind = 5
      · rw [if_pos h5, if_pos (show x.key.kind = 5 from h5)]
        rfl
      · rw [if_neg h5, if_neg (show ¬ x.key.kind = 5 from h5)]
        rfl
theorem ownedM_ok {x : Om} {w : World} {B : Nat} (h : x.Ok w B) : (ownedM x).Ok w B := by
  have hn : Om.Ok ⟨0, ⟨⟨#[]⟩, 0⟩, ⟨⟨#[]⟩, 0⟩, ⟨⟨#[]⟩, 0⟩, ⟨#[]⟩, ⟨#[]⟩, ⟨⟨#[]⟩, 0⟩, ⟨⟨#[]⟩, 0⟩, none, 0, [], 0, none, 0, []⟩ w B := ⟨Rk.Row.nil, ⟨fun _ => rfl, Nat.le_refl _⟩, Strs.none_, ⟨fun _ => rfl, Nat.le_refl _⟩⟩
  unfold ownedM
  split
  · exact ⟨hn.dels, hn.room1, hn.lines, hn.room2⟩
  · split
    · exact ⟨hn.dels, hn.room1, hn.lines, hn.room2⟩
    · split
      · exact ⟨h.dels, h.room1, h.lines, h.room2⟩
      · exact hn
theorem ownedM_sz {x : Om} (h : x.Sz) : (ownedM x).Sz := by
  have z : (⟨#[]⟩ : ByteArray).size ≤ 9223372036854775807 := by decide
  have n0 : ([] : List Im).length ≤ 900000 := Nat.zero_le _
  have m0 : ([] : List (List UInt8)).length ≤ 900000 := Nat.zero_le _
  have e0 : ∀ i ∈ ([] : List Im), i.p.size ≤ 9223372036854775807 := fun i hi => by cases hi
  have f0 : ∀ l ∈ ([] : List (List UInt8)), l.length ≤ 9223372036854775807 := fun i hi => by cases hi
  unfold ownedM
  split
  · exact ⟨h.self, h.parent, z, z, z, h.name, z, n0, e0, m0, f0⟩
  · split
    · exact ⟨h.self, h.parent, h.dst, z, z, h.name, h.dname, n0, e0, m0, f0⟩
    · split
      · exact ⟨h.self, z, z, h.left, h.right, z, z, h.few, h.dels, h.rows, h.lines⟩
      · exact ⟨z, z, z, z, z, z, z, n0, e0, m0, f0⟩
set_option maxHeartbeats 4000000 in
set_option maxRecDepth 100000 in
theorem opowned_any (x : Om) (w : World) :
    Calls Tryz.prog 123 #[.agg #[.int .i64 x.kind, .string x.self.p, .int .i64 x.self.n, .string x.parent.p, .int .i64 x.parent.n, .string x.dst.p, .int .i64 x.dst.n, .string x.name, .string x.dname, .string x.left.p, .int .i64 x.left.n, .string x.right.p, .int .i64 x.right.n, .slice x.a1 x.dels.length x.c1, .int .i64 x.first, .slice x.a2 x.lines.length x.c2]] w fun e w' => e = .returned (ownedM x).val ∧ Below w.heap.size w w' := by
  obtain ⟨hb, hx⟩ := op_box w x
  have HX := Lib.hid hx
  have HF := Lib.hid hb
  clear hb hx
  go_enter Tryz.func123, Tryz.ntmps123
  go_upto_region 1 with (fail)
  have hal : Below (w.alloc (.cells #[.int .i64 x.kind, .string x.self.p, .int .i64 x.self.n, .string x.parent.p, .int .i64 x.parent.n, .string x.dst.p, .int .i64 x.dst.n, .string x.name, .string x.dname, .string x.left.p, .int .i64 x.left.n, .string x.right.p, .int .i64 x.right.n, .slice x.a1 x.dels.length x.c1, .int .i64 x.first, .slice x.a2 x.lines.length x.c2] 84)).heap.size (w.alloc (.cells #[.int .i64 x.kind, .string x.self.p, .int .i64 x.self.n, .string x.parent.p, .int .i64 x.parent.n, .string x.dst.p, .int .i64 x.dst.n, .string x.name, .string x.dname, .string x.left.p, .int .i64 x.left.n, .string x.right.p, .int .i64 x.right.n, .slice x.a1 x.dels.length x.c1, .int .i64 x.first, .slice x.a2 x.lines.length x.c2] 84)) ((w.alloc (.cells #[.int .i64 x.kind, .string x.self.p, .int .i64 x.self.n, .string x.parent.p, .int .i64 x.parent.n, .string x.dst.p, .int .i64 x.dst.n, .string x.name, .string x.dname, .string x.left.p, .int .i64 x.left.n, .string x.right.p, .int .i64 x.right.n, .slice x.a1 x.dels.length x.c1, .int .i64 x.first, .slice x.a2 x.lines.length x.c2] 84)).alloc (.cells #[.int .i64 0, .string ⟨#[]⟩, .int .i64 0, .string ⟨#[]⟩, .int .i64 0, .string ⟨#[]⟩, .int .i64 0, .string ⟨#[]⟩, .string ⟨#[]⟩, .string ⟨#[]⟩, .int .i64 0, .string ⟨#[]⟩, .int .i64 0, .slice none 0 0, .int .i64 0, .slice none 0 0] 84)) := (Below.refl _ _).alloc (Nat.le_refl _) _
  have HC := Lib.hid (op_cells (HX.out.on hal))
  clear hal HX HF
  have c_kind := HC.out.kind
  by_cases h1 : x.kind = 1
  · have q1 : (x.kind == 1) = true := by simpa using h1
    have c_selfp := HC.out.selfp
    have c_selfn := HC.out.selfn
    have c_parentp := HC.out.parentp
    have c_parentn := HC.out.parentn
    have c_name := HC.out.name
    have HM : Hid (ownedM x = ⟨x.kind, x.self, x.parent, ⟨⟨#[]⟩, 0⟩, x.name, ⟨#[]⟩, ⟨⟨#[]⟩, 0⟩, ⟨⟨#[]⟩, 0⟩, none, 0, [], 0, none, 0, []⟩) := by show _ = _; unfold ownedM; rw [if_pos (Or.inl h1)]
    have HRz : Hid (OpAt ((w.alloc (.cells #[.int .i64 x.kind, .string x.self.p, .int .i64 x.self.n, .string x.parent.p, .int .i64 x.parent.n, .string x.dst.p, .int .i64 x.dst.n, .string x.name, .string x.dname, .string x.left.p, .int .i64 x.left.n, .string x.right.p, .int .i64 x.right.n, .slice x.a1 x.dels.length x.c1, .int .i64 x.first, .slice x.a2 x.lines.length x.c2] 84)).alloc (.cells #[.int .i64 x.kind, .string x.self.p, .int .i64 x.self.n, .string x.parent.p, .int .i64 x.parent.n, .string ⟨#[]⟩, .int .i64 0, .string x.name, .string ⟨#[]⟩, .string ⟨#[]⟩, .int .i64 0, .string ⟨#[]⟩, .int .i64 0, .slice none 0 0, .int .i64 0, .slice none 0 0] 84)) (w.heap.size + 1) ⟨x.kind, x.self, x.parent, ⟨⟨#[]⟩, 0⟩, x.name, ⟨#[]⟩, ⟨⟨#[]⟩, 0⟩, ⟨⟨#[]⟩, 0⟩, none, 0, [], 0, none, 0, []⟩) := (op_box2 w x ⟨x.kind, x.self, x.parent, ⟨⟨#[]⟩, 0⟩, x.name, ⟨#[]⟩, ⟨⟨#[]⟩, 0⟩, ⟨⟨#[]⟩, 0⟩, none, 0, [], 0, none, 0, []⟩).2.2
    have HBz : Hid (Below w.heap.size w ((w.alloc (.cells #[.int .i64 x.kind, .string x.self.p, .int .i64 x.self.n, .string x.parent.p, .int .i64 x.parent.n, .string x.dst.p, .int .i64 x.dst.n, .string x.name, .string x.dname, .string x.left.p, .int .i64 x.left.n, .string x.right.p, .int .i64 x.right.n, .slice x.a1 x.dels.length x.c1, .int .i64 x.first, .slice x.a2 x.lines.length x.c2] 84)).alloc (.cells #[.int .i64 x.kind, .string x.self.p, .int .i64 x.self.n, .string x.parent.p, .int .i64 x.parent.n, .string ⟨#[]⟩, .int .i64 0, .string x.name, .string ⟨#[]⟩, .string ⟨#[]⟩, .int .i64 0, .string ⟨#[]⟩, .int .i64 0, .slice none 0 0, .int .i64 0, .slice none 0 0] 84))) := (op_box2 w x ⟨x.kind, x.self, x.parent, ⟨⟨#[]⟩, 0⟩, x.name, ⟨#[]⟩, ⟨⟨#[]⟩, 0⟩, ⟨⟨#[]⟩, 0⟩, none, 0, [], 0, none, 0, []⟩).1
    clear HC h1
    -- @P1
    go_wp2
    (try simp only [Exit.inBlock, Exit.then])
    refine bodyPost_ret (ret_op rfl _ ((w.alloc (.cells #[.int .i64 x.kind, .string x.self.p, .int .i64 x.self.n, .string x.parent.p, .int .i64 x.parent.n, .string x.dst.p, .int .i64 x.dst.n, .string x.name, .string x.dname, .string x.left.p, .int .i64 x.left.n, .string x.right.p, .int .i64 x.right.n, .slice x.a1 x.dels.length x.c1, .int .i64 x.first, .slice x.a2 x.lines.length x.c2] 84)).alloc (.cells #[.int .i64 x.kind, .string x.self.p, .int .i64 x.self.n, .string x.parent.p, .int .i64 x.parent.n, .string ⟨#[]⟩, .int .i64 0, .string x.name, .string ⟨#[]⟩, .string ⟨#[]⟩, .int .i64 0, .string ⟨#[]⟩, .int .i64 0, .slice none 0 0, .int .i64 0, .slice none 0 0] 84)) (w.heap.size + 1) ⟨x.kind, x.self, x.parent, ⟨⟨#[]⟩, 0⟩, x.name, ⟨#[]⟩, ⟨⟨#[]⟩, 0⟩, ⟨⟨#[]⟩, 0⟩, none, 0, [], 0, none, 0, []⟩ rfl HRz.out) rfl ?_
    rw [HM.out]
    exact ⟨rfl, HBz.out⟩
  · have q1 : (x.kind == 1) = false := by simpa using h1
    by_cases h2 : x.kind = 2
    · have q2 : (x.kind == 2) = true := by simpa using h2
      have c_selfp := HC.out.selfp
      have c_selfn := HC.out.selfn
      have c_parentp := HC.out.parentp
      have c_parentn := HC.out.parentn
      have c_name := HC.out.name
      have HM : Hid (ownedM x = ⟨x.kind, x.self, x.parent, ⟨⟨#[]⟩, 0⟩, x.name, ⟨#[]⟩, ⟨⟨#[]⟩, 0⟩, ⟨⟨#[]⟩, 0⟩, none, 0, [], 0, none, 0, []⟩) := by show _ = _; unfold ownedM; rw [if_pos (Or.inr (Or.inl h2))]
      have HRz : Hid (OpAt ((w.alloc (.cells #[.int .i64 x.kind, .string x.self.p, .int .i64 x.self.n, .string x.parent.p, .int .i64 x.parent.n, .string x.dst.p, .int .i64 x.dst.n, .string x.name, .string x.dname, .string x.left.p, .int .i64 x.left.n, .string x.right.p, .int .i64 x.right.n, .slice x.a1 x.dels.length x.c1, .int .i64 x.first, .slice x.a2 x.lines.length x.c2] 84)).alloc (.cells #[.int .i64 x.kind, .string x.self.p, .int .i64 x.self.n, .string x.parent.p, .int .i64 x.parent.n, .string ⟨#[]⟩, .int .i64 0, .string x.name, .string ⟨#[]⟩, .string ⟨#[]⟩, .int .i64 0, .string ⟨#[]⟩, .int .i64 0, .slice none 0 0, .int .i64 0, .slice none 0 0] 84)) (w.heap.size + 1) ⟨x.kind, x.self, x.parent, ⟨⟨#[]⟩, 0⟩, x.name, ⟨#[]⟩, ⟨⟨#[]⟩, 0⟩, ⟨⟨#[]⟩, 0⟩, none, 0, [], 0, none, 0, []⟩) := (op_box2 w x ⟨x.kind, x.self, x.parent, ⟨⟨#[]⟩, 0⟩, x.name, ⟨#[]⟩, ⟨⟨#[]⟩, 0⟩, ⟨⟨#[]⟩, 0⟩, none, 0, [], 0, none, 0, []⟩).2.2
      have HBz : Hid (Below w.heap.size w ((w.alloc (.cells #[.int .i64 x.kind, .string x.self.p, .int .i64 x.self.n, .string x.parent.p, .int .i64 x.parent.n, .string x.dst.p, .int .i64 x.dst.n, .string x.name, .string x.dname, .string x.left.p, .int .i64 x.left.n, .string x.right.p, .int .i64 x.right.n, .slice x.a1 x.dels.length x.c1, .int .i64 x.first, .slice x.a2 x.lines.length x.c2] 84)).alloc (.cells #[.int .i64 x.kind, .string x.self.p, .int .i64 x.self.n, .string x.parent.p, .int .i64 x.parent.n, .string ⟨#[]⟩, .int .i64 0, .string x.name, .string ⟨#[]⟩, .string ⟨#[]⟩, .int .i64 0, .string ⟨#[]⟩, .int .i64 0, .slice none 0 0, .int .i64 0, .slice none 0 0] 84))) := (op_box2 w x ⟨x.kind, x.self, x.parent, ⟨⟨#[]⟩, 0⟩, x.name, ⟨#[]⟩, ⟨⟨#[]⟩, 0⟩, ⟨⟨#[]⟩, 0⟩, none, 0, [], 0, none, 0, []⟩).1
      clear HC h2
      -- @P2
      go_wp2
      (try simp only [Exit.inBlock, Exit.then])
      refine bodyPost_ret (ret_op rfl _ ((w.alloc (.cells #[.int .i64 x.kind, .string x.self.p, .int .i64 x.self.n, .string x.parent.p, .int .i64 x.parent.n, .string x.dst.p, .int .i64 x.dst.n, .string x.name, .string x.dname, .string x.left.p, .int .i64 x.left.n, .string x.right.p, .int .i64 x.right.n, .slice x.a1 x.dels.length x.c1, .int .i64 x.first, .slice x.a2 x.lines.length x.c2] 84)).alloc (.cells #[.int .i64 x.kind, .string x.self.p, .int .i64 x.self.n, .string x.parent.p, .int .i64 x.parent.n, .string ⟨#[]⟩, .int .i64 0, .string x.name, .string ⟨#[]⟩, .string ⟨#[]⟩, .int .i64 0, .string ⟨#[]⟩, .int .i64 0, .slice none 0 0, .int .i64 0, .slice none 0 0] 84)) (w.heap.size + 1) ⟨x.kind, x.self, x.parent, ⟨⟨#[]⟩, 0⟩, x.name, ⟨#[]⟩, ⟨⟨#[]⟩, 0⟩, ⟨⟨#[]⟩, 0⟩, none, 0, [], 0, none, 0, []⟩ rfl HRz.out) rfl ?_
      rw [HM.out]
      exact ⟨rfl, HBz.out⟩
    · have q2 : (x.kind == 2) = false := by simpa using h2
      by_cases h3 : x.kind = 3
      · have q3 : (x.kind == 3) = true := by simpa using h3
        have c_selfp := HC.out.selfp
        have c_selfn := HC.out.selfn
        have c_parentp := HC.out.parentp
        have c_parentn := HC.out.parentn
        have c_name := HC.out.name
        have HM : Hid (ownedM x = ⟨x.kind, x.self, x.parent, ⟨⟨#[]⟩, 0⟩, x.name, ⟨#[]⟩, ⟨⟨#[]⟩, 0⟩, ⟨⟨#[]⟩, 0⟩, none, 0, [], 0, none, 0, []⟩) := by show _ = _; unfold ownedM; rw [if_pos (Or.inr (Or.inr h3))]
        have HRz : Hid (OpAt ((w.alloc (.cells #[.int .i64 x.kind, .string x.self.p, .int .i64 x.self.n, .string x.parent.p, .int .i64 x.parent.n, .string x.dst.p, .int .i64 x.dst.n, .string x.name, .string x.dname, .string x.left.p, .int .i64 x.left.n, .string x.right.p, .int .i64 x.right.n, .slice x.a1 x.dels.length x.c1, .int .i64 x.first, .slice x.a2 x.lines.length x.c2] 84)).alloc (.cells #[.int .i64 x.kind, .string x.self.p, .int .i64 x.self.n, .string x.parent.p, .int .i64 x.parent.n, .string ⟨#[]⟩, .int .i64 0, .string x.name, .string ⟨#[]⟩, .string ⟨#[]⟩, .int .i64 0, .string ⟨#[]⟩, .int .i64 0, .slice none 0 0, .int .i64 0, .slice none 0 0] 84)) (w.heap.size + 1) ⟨x.kind, x.self, x.parent, ⟨⟨#[]⟩, 0⟩, x.name, ⟨#[]⟩, ⟨⟨#[]⟩, 0⟩, ⟨⟨#[]⟩, 0⟩, none, 0, [], 0, none, 0, []⟩) := (op_box2 w x ⟨x.kind, x.self, x.parent, ⟨⟨#[]⟩, 0⟩, x.name, ⟨#[]⟩, ⟨⟨#[]⟩, 0⟩, ⟨⟨#[]⟩, 0⟩, none, 0, [], 0, none, 0, []⟩).2.2
        have HBz : Hid (Below w.heap.size w ((w.alloc (.cells #[.int .i64 x.kind, .string x.self.p, .int .i64 x.self.n, .string x.parent.p, .int .i64 x.parent.n, .string x.dst.p, .int .i64 x.dst.n, .string x.name, .string x.dname, .string x.left.p, .int .i64 x.left.n, .string x.right.p, .int .i64 x.right.n, .slice x.a1 x.dels.length x.c1, .int .i64 x.first, .slice x.a2 x.lines.length x.c2] 84)).alloc (.cells #[.int .i64 x.kind, .string x.self.p, .int .i64 x.self.n, .string x.parent.p, .int .i64 x.parent.n, .string ⟨#[]⟩, .int .i64 0, .string x.name, .string ⟨#[]⟩, .string ⟨#[]⟩, .int .i64 0, .string ⟨#[]⟩, .int .i64 0, .slice none 0 0, .int .i64 0, .slice none 0 0] 84))) := (op_box2 w x ⟨x.kind, x.self, x.parent, ⟨⟨#[]⟩, 0⟩, x.name, ⟨#[]⟩, ⟨⟨#[]⟩, 0⟩, ⟨⟨#[]⟩, 0⟩, none, 0, [], 0, none, 0, []⟩).1
        clear HC h3
        -- @P3
        go_wp2
        (try simp only [Exit.inBlock, Exit.then])
        refine bodyPost_ret (ret_op rfl _ ((w.alloc (.cells #[.int .i64 x.kind, .string x.self.p, .int .i64 x.self.n, .string x.parent.p, .int .i64 x.parent.n, .string x.dst.p, .int .i64 x.dst.n, .string x.name, .string x.dname, .string x.left.p, .int .i64 x.left.n, .string x.right.p, .int .i64 x.right.n, .slice x.a1 x.dels.length x.c1, .int .i64 x.first, .slice x.a2 x.lines.length x.c2] 84)).alloc (.cells #[.int .i64 x.kind, .string x.self.p, .int .i64 x.self.n, .string x.parent.p, .int .i64 x.parent.n, .string ⟨#[]⟩, .int .i64 0, .string x.name, .string ⟨#[]⟩, .string ⟨#[]⟩, .int .i64 0, .string ⟨#[]⟩, .int .i64 0, .slice none 0 0, .int .i64 0, .slice none 0 0] 84)) (w.heap.size + 1) ⟨x.kind, x.self, x.parent, ⟨⟨#[]⟩, 0⟩, x.name, ⟨#[]⟩, ⟨⟨#[]⟩, 0⟩, ⟨⟨#[]⟩, 0⟩, none, 0, [], 0, none, 0, []⟩ rfl HRz.out) rfl ?_
        rw [HM.out]
        exact ⟨rfl, HBz.out⟩
      · have q3 : (x.kind == 3) = false := by simpa using h3
        have h123 : ¬ (x.kind = 1 ∨ x.kind = 2 ∨ x.kind = 3) := by omega
        by_cases h4 : x.kind = 4
        · have q4 : (x.kind == 4) = true := by simpa using h4
          have c_selfp := HC.out.selfp
          have c_selfn := HC.out.selfn
          have c_parentp := HC.out.parentp
          have c_parentn := HC.out.parentn
          have c_name := HC.out.name
          have c_dstp := HC.out.dstp
          have c_dstn := HC.out.dstn
          have c_dname := HC.out.dname
          have HM : Hid (ownedM x = ⟨x.kind, x.self, x.parent, x.dst, x.name, x.dname, ⟨⟨#[]⟩, 0⟩, ⟨⟨#[]⟩, 0⟩, none, 0, [], 0, none, 0, []⟩) := by show _ = _; unfold ownedM; rw [if_neg h123, if_pos h4]
          have HRz : Hid (OpAt ((w.alloc (.cells #[.int .i64 x.kind, .string x.self.p, .int .i64 x.self.n, .string x.parent.p, .int .i64 x.parent.n, .string x.dst.p, .int .i64 x.dst.n, .string x.name, .string x.dname, .string x.left.p, .int .i64 x.left.n, .string x.right.p, .int .i64 x.right.n, .slice x.a1 x.dels.length x.c1, .int .i64 x.first, .slice x.a2 x.lines.length x.c2] 84)).alloc (.cells #[.int .i64 x.kind, .string x.self.p, .int .i64 x.self.n, .string x.parent.p, .int .i64 x.parent.n, .string x.dst.p, .int .i64 x.dst.n, .string x.name, .string x.dname, .string ⟨#[]⟩, .int .i64 0, .string ⟨#[]⟩, .int .i64 0, .slice none 0 0, .int .i64 0, .slice none 0 0] 84)) (w.heap.size + 1) ⟨x.kind, x.self, x.parent, x.dst, x.name, x.dname, ⟨⟨#[]⟩, 0⟩, ⟨⟨#[]⟩, 0⟩, none, 0, [], 0, none, 0, []⟩) := (op_box2 w x ⟨x.kind, x.self, x.parent, x.dst, x.name, x.dname, ⟨⟨#[]⟩, 0⟩, ⟨⟨#[]⟩, 0⟩, none, 0, [], 0, none, 0, []⟩).2.2
          have HBz : Hid (Below w.heap.size w ((w.alloc (.cells #[.int .i64 x.kind, .string x.self.p, .int .i64 x.self.n, .string x.parent.p, .int .i64 x.parent.n, .string x.dst.p, .int .i64 x.dst.n, .string x.name, .string x.dname, .string x.left.p, .int .i64 x.left.n, .string x.right.p, .int .i64 x.right.n, .slice x.a1 x.dels.length x.c1, .int .i64 x.first, .slice x.a2 x.lines.length x.c2] 84)).alloc (.cells #[.int .i64 x.kind, .string x.self.p, .int .i64 x.self.n, .string x.parent.p, .int .i64 x.parent.n, .string x.dst.p, .int .i64 x.dst.n, .string x.name, .string x.dname, .string ⟨#[]⟩, .int .i64 0, .string ⟨#[]⟩, .int .i64 0, .slice none 0 0, .int .i64 0, .slice none 0 0] 84))) := (op_box2 w x ⟨x.kind, x.self, x.parent, x.dst, x.name, x.dname, ⟨⟨#[]⟩, 0⟩, ⟨⟨#[]⟩, 0⟩, none, 0, [], 0, none, 0, []⟩).1
          clear HC h4
          -- @P4
          go_wp2
          (try simp only [Exit.inBlock, Exit.then])
          refine bodyPost_ret (ret_op rfl _ ((w.alloc (.cells #[.int .i64 x.kind, .string x.self.p, .int .i64 x.self.n, .string x.parent.p, .int .i64 x.parent.n, .string x.dst.p, .int .i64 x.dst.n, .string x.name, .string x.dname, .string x.left.p, .int .i64 x.left.n, .string x.right.p, .int .i64 x.right.n, .slice x.a1 x.dels.length x.c1, .int .i64 x.first, .slice x.a2 x.lines.length x.c2] 84)).alloc (.cells #[.int .i64 x.kind, .string x.self.p, .int .i64 x.self.n, .string x.parent.p, .int .i64 x.parent.n, .string x.dst.p, .int .i64 x.dst.n, .string x.name, .string x.dname, .string ⟨#[]⟩, .int .i64 0, .string ⟨#[]⟩, .int .i64 0, .slice none 0 0, .int .i64 0, .slice none 0 0] 84)) (w.heap.size + 1) ⟨x.kind, x.self, x.parent, x.dst, x.name, x.dname, ⟨⟨#[]⟩, 0⟩, ⟨⟨#[]⟩, 0⟩, none, 0, [], 0, none, 0, []⟩ rfl HRz.out) rfl ?_
          rw [HM.out]
          exact ⟨rfl, HBz.out⟩
        · have q4 : (x.kind == 4) = false := by simpa using h4
          by_cases h5 : x.kind = 5
          · have q5 : (x.kind == 5) = true := by simpa using h5
            have c_selfp := HC.out.selfp
            have c_selfn := HC.out.selfn
            have c_leftp := HC.out.leftp
            have c_leftn := HC.out.leftn
            have c_rightp := HC.out.rightp
            have c_rightn := HC.out.rightn
            have c_dels := HC.out.dels
            have c_first := HC.out.first
            have c_lines := HC.out.lines
            have HM : Hid (ownedM x = ⟨x.kind, x.self, ⟨⟨#[]⟩, 0⟩, ⟨⟨#[]⟩, 0⟩, ⟨#[]⟩, ⟨#[]⟩, x.left, x.right, x.a1, x.c1, x.dels, x.first, x.a2, x.c2, x.lines⟩) := by show _ = _; unfold ownedM; rw [if_neg h123, if_neg h4, if_pos h5]
            have HRz : Hid (OpAt ((w.alloc (.cells #[.int .i64 x.kind, .string x.self.p, .int .i64 x.self.n, .string x.parent.p, .int .i64 x.parent.n, .string x.dst.p, .int .i64 x.dst.n, .string x.name, .string x.dname, .string x.left.p, .int .i64 x.left.n, .string x.right.p, .int .i64 x.right.n, .slice x.a1 x.dels.length x.c1, .int .i64 x.first, .slice x.a2 x.lines.length x.c2] 84)).alloc (.cells #[.int .i64 x.kind, .string x.self.p, .int .i64 x.self.n, .string ⟨#[]⟩, .int .i64 0, .string ⟨#[]⟩, .int .i64 0, .string ⟨#[]⟩, .string ⟨#[]⟩, .string x.left.p, .int .i64 x.left.n, .string x.right.p, .int .i64 x.right.n, .slice x.a1 x.dels.length x.c1, .int .i64 x.first, .slice x.a2 x.lines.length x.c2] 84)) (w.heap.size + 1) ⟨x.kind, x.self, ⟨⟨#[]⟩, 0⟩, ⟨⟨#[]⟩, 0⟩, ⟨#[]⟩, ⟨#[]⟩, x.left, x.right, x.a1, x.c1, x.dels, x.first, x.a2, x.c2, x.lines⟩) := (op_box2 w x ⟨x.kind, x.self, ⟨⟨#[]⟩, 0⟩, ⟨⟨#[]⟩, 0⟩, ⟨#[]⟩, ⟨#[]⟩, x.left, x.right, x.a1, x.c1, x.dels, x.first, x.a2, x.c2, x.lines⟩).2.2
            have HBz : Hid (Below w.heap.size w ((w.alloc (.cells #[.int .i64 x.kind, .string x.self.p, .int .i64 x.self.n, .string x.parent.p, .int .i64 x.parent.n, .string x.dst.p, .int .i64 x.dst.n, .string x.name, .string x.dname, .string x.left.p, .int .i64 x.left.n, .string x.right.p, .int .i64 x.right.n, .slice x.a1 x.dels.length x.c1, .int .i64 x.first, .slice x.a2 x.lines.length x.c2] 84)).alloc (.cells #[.int .i64 x.kind, .string x.self.p, .int .i64 x.self.n, .string ⟨#[]⟩, .int .i64 0, .string ⟨#[]⟩, .int .i64 0, .string ⟨#[]⟩, .string ⟨#[]⟩, .string x.left.p, .int .i64 x.left.n, .string x.right.p, .int .i64 x.right.n, .slice x.a1 x.dels.length x.c1, .int .i64 x.first, .slice x.a2 x.lines.length x.c2] 84))) := (op_box2 w x ⟨x.kind, x.self, ⟨⟨#[]⟩, 0⟩, ⟨⟨#[]⟩, 0⟩, ⟨#[]⟩, ⟨#[]⟩, x.left, x.right, x.a1, x.c1, x.dels, x.first, x.a2, x.c2, x.lines⟩).1
            clear HC h5
            -- @P5
            go_wp2
            (try simp only [Exit.inBlock, Exit.then])
            refine bodyPost_ret (ret_op rfl _ ((w.alloc (.cells #[.int .i64 x.kind, .string x.self.p, .int .i64 x.self.n, .string x.parent.p, .int .i64 x.parent.n, .string x.dst.p, .int .i64 x.dst.n, .string x.name, .string x.dname, .string x.left.p, .int .i64 x.left.n, .string x.right.p, .int .i64 x.right.n, .slice x.a1 x.dels.length x.c1, .int .i64 x.first, .slice x.a2 x.lines.length x.c2] 84)).alloc (.cells #[.int .i64 x.kind, .string x.self.p, .int .i64 x.self.n, .string ⟨#[]⟩, .int .i64 0, .string ⟨#[]⟩, .int .i64 0, .string ⟨#[]⟩, .string ⟨#[]⟩, .string x.left.p, .int .i64 x.left.n, .string x.right.p, .int .i64 x.right.n, .slice x.a1 x.dels.length x.c1, .int .i64 x.first, .slice x.a2 x.lines.length x.c2] 84)) (w.heap.size + 1) ⟨x.kind, x.self, ⟨⟨#[]⟩, 0⟩, ⟨⟨#[]⟩, 0⟩, ⟨#[]⟩, ⟨#[]⟩, x.left, x.right, x.a1, x.c1, x.dels, x.first, x.a2, x.c2, x.lines⟩ rfl HRz.out) rfl ?_
            rw [HM.out]
            exact ⟨rfl, HBz.out⟩
          · have q5 : (x.kind == 5) = false := by simpa using h5
            have HM : Hid (ownedM x = ⟨0, ⟨⟨#[]⟩, 0⟩, ⟨⟨#[]⟩, 0⟩, ⟨⟨#[]⟩, 0⟩, ⟨#[]⟩, ⟨#[]⟩, ⟨⟨#[]⟩, 0⟩, ⟨⟨#[]⟩, 0⟩, none, 0, [], 0, none, 0, []⟩) := by show _ = _; unfold ownedM; rw [if_neg h123, if_neg h4, if_neg h5]
            have HRz : Hid (OpAt ((w.alloc (.cells #[.int .i64 x.kind, .string x.self.p, .int .i64 x.self.n, .string x.parent.p, .int .i64 x.parent.n, .string x.dst.p, .int .i64 x.dst.n, .string x.name, .string x.dname, .string x.left.p, .int .i64 x.left.n, .string x.right.p, .int .i64 x.right.n, .slice x.a1 x.dels.length x.c1, .int .i64 x.first, .slice x.a2 x.lines.length x.c2] 84)).alloc (.cells #[.int .i64 0, .string ⟨#[]⟩, .int .i64 0, .string ⟨#[]⟩, .int .i64 0, .string ⟨#[]⟩, .int .i64 0, .string ⟨#[]⟩, .string ⟨#[]⟩, .string ⟨#[]⟩, .int .i64 0, .string ⟨#[]⟩, .int .i64 0, .slice none 0 0, .int .i64 0, .slice none 0 0] 84)) (w.heap.size + 1) ⟨0, ⟨⟨#[]⟩, 0⟩, ⟨⟨#[]⟩, 0⟩, ⟨⟨#[]⟩, 0⟩, ⟨#[]⟩, ⟨#[]⟩, ⟨⟨#[]⟩, 0⟩, ⟨⟨#[]⟩, 0⟩, none, 0, [], 0, none, 0, []⟩) := (op_box2 w x ⟨0, ⟨⟨#[]⟩, 0⟩, ⟨⟨#[]⟩, 0⟩, ⟨⟨#[]⟩, 0⟩, ⟨#[]⟩, ⟨#[]⟩, ⟨⟨#[]⟩, 0⟩, ⟨⟨#[]⟩, 0⟩, none, 0, [], 0, none, 0, []⟩).2.2
            have HBz : Hid (Below w.heap.size w ((w.alloc (.cells #[.int .i64 x.kind, .string x.self.p, .int .i64 x.self.n, .string x.parent.p, .int .i64 x.parent.n, .string x.dst.p, .int .i64 x.dst.n, .string x.name, .string x.dname, .string x.left.p, .int .i64 x.left.n, .string x.right.p, .int .i64 x.right.n, .slice x.a1 x.dels.length x.c1, .int .i64 x.first, .slice x.a2 x.lines.length x.c2] 84)).alloc (.cells #[.int .i64 0, .string ⟨#[]⟩, .int .i64 0, .string ⟨#[]⟩, .int .i64 0, .string ⟨#[]⟩, .int .i64 0, .string ⟨#[]⟩, .string ⟨#[]⟩, .string ⟨#[]⟩, .int .i64 0, .string ⟨#[]⟩, .int .i64 0, .slice none 0 0, .int .i64 0, .slice none 0 0] 84))) := (op_box2 w x ⟨0, ⟨⟨#[]⟩, 0⟩, ⟨⟨#[]⟩, 0⟩, ⟨⟨#[]⟩, 0⟩, ⟨#[]⟩, ⟨#[]⟩, ⟨⟨#[]⟩, 0⟩, ⟨⟨#[]⟩, 0⟩, none, 0, [], 0, none, 0, []⟩).1
            clear HC
            -- @P6
            go_wp2
            (try simp only [Exit.inBlock, Exit.then])
            refine bodyPost_ret (ret_op rfl _ ((w.alloc (.cells #[.int .i64 x.kind, .string x.self.p, .int .i64 x.self.n, .string x.parent.p, .int .i64 x.parent.n, .string x.dst.p, .int .i64 x.dst.n, .string x.name, .string x.dname, .string x.left.p, .int .i64 x.left.n, .string x.right.p, .int .i64 x.right.n, .slice x.a1 x.dels.length x.c1, .int .i64 x.first, .slice x.a2 x.lines.length x.c2] 84)).alloc (.cells #[.int .i64 0, .string ⟨#[]⟩, .int .i64 0, .string ⟨#[]⟩, .int .i64 0, .string ⟨#[]⟩, .int .i64 0, .string ⟨#[]⟩, .string ⟨#[]⟩, .string ⟨#[]⟩, .int .i64 0, .string ⟨#[]⟩, .int .i64 0, .slice none 0 0, .int .i64 0, .slice none 0 0] 84)) (w.heap.size + 1) ⟨0, ⟨⟨#[]⟩, 0⟩, ⟨⟨#[]⟩, 0⟩, ⟨⟨#[]⟩, 0⟩, ⟨#[]⟩, ⟨#[]⟩, ⟨⟨#[]⟩, 0⟩, ⟨⟨#[]⟩, 0⟩, none, 0, [], 0, none, 0, []⟩ rfl HRz.out) rfl ?_
            rw [HM.out]
            exact ⟨rfl, HBz.out⟩
end Go.Proofs.YtifkpelcdihdoaaGreatDoor
