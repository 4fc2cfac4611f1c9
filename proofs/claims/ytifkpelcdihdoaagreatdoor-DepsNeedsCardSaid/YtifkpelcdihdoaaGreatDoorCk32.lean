/- The library's Clone of operations, and of strings; package patch's Copy. -/
import Derived.Test.YtifkpelcdihdoaaGreatDoorProg
import Derived.WalkKit
import Derived.WalkSpells
import Derived.Handy
import Derived.Lib.Hide
import Derived.Shelf.Strings.BuilderK
import Derived.BigQuiet
import Derived.Deep.QuietTactic
import Derived.Lib.AtoiAllCases
import Derived.Lib.ItoaMem
import Derived.Test.YtifkpelcdihdoaaGreatDoorShelf
import Derived.Deep.RegionHeld3
import Derived.Deep.CutRange
import Derived.Lib.AppendIntMem
import Derived.BigRegion
import Derived.Deep.RegionWith
import Derived.Lib.QuietBelow
import Derived.Deep.MidRow
import Derived.StillTailTactics
import Derived.Deep.RegionLaw
import Derived.Test.YtifkpelcdihdoaaGreatDoorCk31
namespace Go.Proofs.YtifkpelcdihdoaaGreatDoor
open Go.RowKit
set_option linter.unusedVariables false

set_option maxHeartbeats 1000000 in
set_option maxRecDepth 100000 in
theorem oclone_any (A : Option Addr) (l : List Om) (cap : Nat) (w : World) (hs : opR.Row w w.heap.size A l) (hr : Room A l.length cap) (hn : l.length ≤ 100000) :
    Calls Tryz.prog 55 #[.slice A l.length cap] w fun e w' => ∃ A' c', e = .returned (.slice A' l.length c') ∧ opR.Own w' w.heap.size (.slice A' l.length c') l ∧ Below w.heap.size w w' := by
  have HS := Lib.hid hs
  have HR := Lib.hid hr
  clear hs hr
  have q : ∀ (W : World) (a : Option Addr) (n c n' c' : Nat), (binOp .eql 33 (.slice a n c) (.slice none n' c')).run Tryz.prog W = .ok (.bool a.isNone) W := fun W a n c n' c' => Lib.run_eql_slice_nil W _ _ a n c n' c' Tryz.underlying33
  cases A with
  | none =>
    have h0 : l = [] := by
      have h1 := HR.out.1 rfl
      have h2 := HR.out.2
      exact List.length_eq_zero_iff.1 (by omega)
    subst h0
    go_enter Tryz.func55, Tryz.ntmps55
    go_wp2
    go_ret
    exact ⟨_, _, rfl, Rk.Own.nil _ _, Below.refl _ _⟩
  | some a =>
    have hal : Below w.heap.size w (w.alloc (.cells #[] 84)) := (Below.refl _ _).alloc (Nat.le_refl _) _
    have HO : Hid (opR.Own (w.alloc (.cells #[] 84)) w.heap.size (.slice (some ⟨w.heap.size, 0, none⟩) 0 0) []) := Rk.Own.made w w.heap.size (Nat.le_refl _)
    have HC := Lib.hid (HS.out.on hal)
    have HA := Lib.hid hal
    obtain ⟨n, hn0⟩ : ∃ n, n = l.length := ⟨_, rfl⟩
    have HN := Lib.hid hn0
    have hx : ([] : List Om).length + l.length ≤ 1000000 := by simp; omega
    have hm : Hid (n = ([] : List Om).length + l.length) := by show _ = _; simpa using hn0
    have hR := Lib.hid HR.out.1
    rw [← hn0]
    clear hal hn0 HR
    go_enter Tryz.func55, Tryz.ntmps55
    go_wp2_with (at_builtin; refine opR.wpList_append rfl _ _ rfl w.heap.size _ [] l rfl HO.out (some a) cap n rfl HN.out hR.out HC.out HA.out.size hx n hm.out ?_)
    intro A4 c4 w' ho hg
    have HB := Lib.hid (Rk.Own.app HA.out HO.out hg (Nat.le_refl _))
    have HO2 := Lib.hid ho
    clear ho hg
    go_wp2
    go_ret
    exact ⟨A4, c4, rfl, HO2.out, HB.out⟩
set_option maxHeartbeats 1000000 in
set_option maxRecDepth 100000 in
theorem sclone_any (A : Option Addr) (l : List (List UInt8)) (cap : Nat) (w : World) (hs : Strs w w.heap.size A (toBs l)) (hr : Room A l.length cap) (hn : l.length ≤ 100000) :
    Calls Tryz.prog 54 #[.slice A l.length cap] w fun e w' => ∃ A' c', e = .returned (.slice A' l.length c') ∧ OwnS w' w.heap.size (.slice A' l.length c') l ∧ Below w.heap.size w w' := by
  have HS := Lib.hid hs
  have HR := Lib.hid hr
  clear hs hr
  have q : ∀ (W : World) (a : Option Addr) (n c n' c' : Nat), (binOp .eql 23 (.slice a n c) (.slice none n' c')).run Tryz.prog W = .ok (.bool a.isNone) W := fun W a n c n' c' => Lib.run_eql_slice_nil W _ _ a n c n' c' Tryz.underlying23
  cases A with
  | none =>
    have h0 : l = [] := by
      have h1 := HR.out.1 rfl
      have h2 := HR.out.2
      exact List.length_eq_zero_iff.1 (by omega)
    subst h0
    go_enter Tryz.func54, Tryz.ntmps54
    go_wp2
    go_ret
    exact ⟨_, _, rfl, OwnS.nil _ _, Below.refl _ _⟩
  | some a =>
    have hal : Below w.heap.size w (w.alloc (.cells #[] 9)) := (Below.refl _ _).alloc (Nat.le_refl _) _
    have HO : Hid (OwnS (w.alloc (.cells #[] 9)) w.heap.size (.slice (some ⟨w.heap.size, 0, none⟩) 0 0) []) := w.ownsRow_made #[] 0 (Nat.le_refl _) (Nat.zero_le _) (by simp)
    have HC := Lib.hid (HS.out.on hal)
    have HA := Lib.hid hal
    obtain ⟨n, hn0⟩ : ∃ n, n = l.length := ⟨_, rfl⟩
    have HN := Lib.hid hn0
    have hx : ([] : List (List UInt8)).length + l.length ≤ 1000000 := by simp; omega
    have hm : Hid (n = ([] : List (List UInt8)).length + l.length) := by show _ = _; simpa using hn0
    have hR := Lib.hid HR.out.1
    rw [← hn0]
    clear hal hn0 HR
    go_enter Tryz.func54, Tryz.ntmps54
    go_wp2_with (at_builtin; refine wpList_append_row rfl _ _ rfl w.heap.size _ [] l rfl HO.out (some a) cap n rfl HN.out hR.out HC.out HA.out.size hx n hm.out ?_)
    intro A4 c4 w' ho hst hg
    have HB : Hid (Below w.heap.size w w') := below_append HA.out HO.out hg (Nat.le_refl _)
    have HO2 : Hid (OwnS w' w.heap.size (.slice A4 n c4) l) := ho
    clear ho hg hst
    go_wp2
    go_ret
    exact ⟨A4, c4, rfl, HO2.out, HB.out⟩
theorem owned_ne_pat {w : World} {B e size n g : Nat} {v : Value} {xs : List Value} {u0 u1 u2 : Value} (h : w.ownsRow B e size v n xs) (hp : PatB w g u0 u1 u2) (he : e ≠ 35) : ∀ k, v.ownBlock = some k → k ≠ g := fun k hk hkg => by
  rcases h.2 with ⟨rfl, _⟩ | ⟨q, cap, cur, rfl, _, hg, _⟩
  · cases hk
  · have hq : q = k := by simpa [Value.ownBlock] using hk
    subst hq
    subst hkg
    rw [hp.blk] at hg
    simp only [Option.some.injEq, Obj.cells.injEq] at hg
    exact he hg.2.1.symm
theorem copy_end {w0 W : World} {d1 d2 : Option Addr} {n1 n2 e1 e2 gr gc : Nat} {ds : List (List UInt8)} {os : List Om} {v0 v1 v2 y0 y1 y2 : Value} (hd : OwnS W w0.heap.size (.slice d1 n1 e1) ds) (ho : opR.Own W w0.heap.size (.slice d2 n2 e2) os) (hr : PatB W gr v0 v1 v2) (hc : PatB W gc y0 y1 y2)
    (hb : Below w0.heap.size w0 W) (lr : gr < w0.heap.size) (lc : w0.heap.size ≤ gc) (u0 u1 u2 : Value) :
    Below w0.heap.size w0 (((W.setCell ⟨gc, 0, none⟩ u0).setCell ⟨gc, 1, none⟩ u1).setCell ⟨gc, 2, none⟩ u2) ∧ OwnS (((W.setCell ⟨gc, 0, none⟩ u0).setCell ⟨gc, 1, none⟩ u1).setCell ⟨gc, 2, none⟩ u2) w0.heap.size (.slice d1 n1 e1) ds ∧ opR.Own (((W.setCell ⟨gc, 0, none⟩ u0).setCell ⟨gc, 1, none⟩ u1).setCell ⟨gc, 2, none⟩ u2) w0.heap.size (.slice d2 n2 e2) os ∧
    PatB (((W.setCell ⟨gc, 0, none⟩ u0).setCell ⟨gc, 1, none⟩ u1).setCell ⟨gc, 2, none⟩ u2) gr v0 v1 v2 ∧ PatB (((W.setCell ⟨gc, 0, none⟩ u0).setCell ⟨gc, 1, none⟩ u1).setCell ⟨gc, 2, none⟩ u2) gc u0 u1 u2 := by
  have hg := grown_set3 W gc u0 u1 u2
  refine ⟨hb.grown hg hb.size (fun q hq => by simp only [Option.some.injEq] at hq; omega), owns_grown hd hg (fun k hk e => owned_ne_pat hd hc (by decide) k hk (by simp only [Option.some.injEq] at e; exact e.symm)), Rk.Own.grown ho hg (fun k hk e => owned_ne_pat ho hc (by decide) k hk (by simp only [Option.some.injEq] at e; exact e.symm)), ⟨(hg.block gr hr.lt (fun e => by simp only [Option.some.injEq] at e; omega)).trans hr.blk⟩, patb_set3 hc u0 u1 u2⟩
namespace Rk
variable {α : Type} {R : Rk α} {w : World} {g cap : Nat} {d : List α}
/-- One cell of a record written over. -/
theorem Blk.put1 (k : R.Blk w g cap d) {i r : Nat} (hi : i < d.length) (hr : r < R.k) (x : α) (v : Value) (he : R.enc x = (R.enc d[i]).set r v) : R.Blk (w.setCell ⟨g, i * R.k + r, none⟩ v) g cap (d.set i x) := by
  obtain ⟨cur, h1, h2, h3⟩ := k.h
  obtain ⟨c2, e1, e2⟩ := setCells_arr g R.ty [v] (i * R.k + r) w cur h1
  refine ⟨⟨c2, e1, ?_, ?_⟩, by simpa using k.len, k.max⟩
  · have h := congrArg List.length e2
    rw [over_len, Array.length_toList, Array.length_toList, h2] at h
    exact h
  · rw [List.length_set, e2, over_take, h3, cells_set d i x hi, he]
    have hil : (i + 1) * R.k ≤ d.length * R.k := Nat.mul_le_mul_right _ hi
    rw [Nat.add_mul, Nat.one_mul] at hil
    refine List.ext_getElem? fun t => ?_
    rw [over_get, over_get, R.cells_len, List.length_set, R.len, List.length_singleton]
    by_cases h4 : i * R.k ≤ t ∧ t < i * R.k + R.k
    · rw [if_pos (show i * R.k ≤ t ∧ t < i * R.k + R.k ∧ t < d.length * R.k from ⟨h4.1, h4.2, by omega⟩)]
      obtain ⟨s, hs⟩ : ∃ s, t = i * R.k + s := ⟨t - i * R.k, by omega⟩
      subst hs
      rw [Nat.add_sub_cancel_left]
      by_cases e : s = r
      · subst e
        rw [if_pos ⟨by omega, by omega, by omega⟩, Nat.sub_self, List.getElem?_set_self (by rw [R.len]; exact hr)]
        rfl
      · rw [if_neg (by omega), List.getElem?_set_ne (fun h => e h.symm), R.cells_get d i hi s (by omega)]
    · rw [if_neg (by omega), if_neg (by omega)]
end Rk
/-- An operation's rows lie in no block from lo to hi. -/
def Om.Out (z : Om) (lo hi : Nat) : Prop := (∀ b off, 0 < z.dels.length → z.a1 = some ⟨b, off, none⟩ → b < lo ∨ hi ≤ b) ∧ (∀ b off, 0 < z.lines.length → z.a2 = some ⟨b, off, none⟩ → b < lo ∨ hi ≤ b)
/-- An operation's rows do not lie in block G. -/
def Om.Off (z : Om) (G : Nat) : Prop := (∀ b off, 0 < z.dels.length → z.a1 = some ⟨b, off, none⟩ → b ≠ G) ∧ (∀ b off, 0 < z.lines.length → z.a2 = some ⟨b, off, none⟩ → b ≠ G)
theorem Om.Ok.off {z : Om} {w : World} {B G : Nat} (h : z.Ok w B) (hB : B ≤ G) : z.Off G := by
  refine ⟨fun b off hp e => ?_, fun b off hp e => ?_⟩
  · obtain ⟨b2, off2, e2, hlt, _⟩ := h.dels hp
    rw [e2] at e
    simp only [Option.some.injEq, Addr.mk.injEq] at e
    omega
  · obtain ⟨b2, off2, e2, hlt, _⟩ := h.lines (by rw [toBs_len]; exact hp)
    rw [e2] at e
    simp only [Option.some.injEq, Addr.mk.injEq] at e
    omega
/-- A patch's rows do not lie in block G. -/
structure Ptm.Off (z : Ptm) (G : Nat) : Prop where
  deps : ∀ b off, 0 < z.deps.length → z.a1 = some ⟨b, off, none⟩ → b ≠ G
  ops : ∀ b off, 0 < z.ops.length → z.a2 = some ⟨b, off, none⟩ → b ≠ G
  each : ∀ o ∈ z.ops, o.Off G
theorem Ptm.Ok.off {z : Ptm} {w : World} {B G : Nat} (h : z.Ok w B) (hB : B ≤ G) : z.Off G := by
  refine ⟨fun b off hp e => ?_, fun b off hp e => ?_, fun o ho => (h.ops.2 o ho).off hB⟩
  · obtain ⟨b2, off2, e2, hlt, _⟩ := h.deps (by rw [toBs_len]; exact hp)
    rw [e2] at e
    simp only [Option.some.injEq, Addr.mk.injEq] at e
    omega
  · obtain ⟨b2, off2, e2, hlt, _⟩ := h.ops.1 hp
    rw [e2] at e
    simp only [Option.some.injEq, Addr.mk.injEq] at e
    omega
theorem Om.Ok.out {z : Om} {w : World} {B lo hi : Nat} (h : z.Ok w B) (hB : B ≤ lo) : z.Out lo hi := by
  refine ⟨fun b off hp e => ?_, fun b off hp e => ?_⟩
  · obtain ⟨b2, off2, e2, hlt, _⟩ := h.dels hp
    rw [e2] at e
    simp only [Option.some.injEq, Addr.mk.injEq] at e
    omega
  · obtain ⟨b2, off2, e2, hlt, _⟩ := h.lines (by rw [toBs_len]; exact hp)
    rw [e2] at e
    simp only [Option.some.injEq, Addr.mk.injEq] at e
    omega
theorem Om.Ok.apart {z : Om} {w w' : World} {lo hi g : Nat} (h : z.Ok w w.heap.size) (ho : z.Out lo hi) (hg : w.grownBy w' (some g)) (h1 : lo ≤ g) (h2 : g < hi) : z.Ok w' w'.heap.size := by
  refine ⟨(Rk.Row.more (fun hp => ?_) hg.size), h.room1, (Strs.more (fun hp => ?_) hg.size), h.room2⟩
  · obtain ⟨b, off, e, hlt, hc⟩ := h.dels hp
    have hne := ho.1 b off hp e
    exact ⟨b, off, e, hlt, fun i u hu => (cell_same (hg.block b hlt (fun e => by simp only [Option.some.injEq] at e; omega))).trans (hc i u hu)⟩
  · obtain ⟨b, off, e, hlt, hc⟩ := h.lines hp
    have hne := ho.2 b off (by rw [toBs_len] at hp; exact hp) e
    exact ⟨b, off, e, hlt, fun j hj => (cell_same (hg.block b hlt (fun e => by simp only [Option.some.injEq] at e; omega))).trans (hc j hj)⟩
theorem ownid_in {w : World} {B n c : Nat} {A : Option Addr} {l : List Im} (h : OwnId w B (.slice A n c) l) : ∀ b off, A = some ⟨b, off, none⟩ → B ≤ b := fun b off e => by
  rcases h.2 with ⟨e2, _⟩ | ⟨g, cap, cur, e2, hb, _⟩
  · simp only [Value.slice.injEq] at e2
    rw [e2.1] at e
    cases e
  · simp only [Value.slice.injEq] at e2
    rw [e2.1] at e
    simp only [Option.some.injEq, Addr.mk.injEq] at e
    omega
theorem owns_at {w : World} {B n c : Nat} {A : Option Addr} {l : List (List UInt8)} (h : OwnS w B (.slice A n c) l) : ∀ b off, A = some ⟨b, off, none⟩ → B ≤ b := fun b off e => by
  rcases h.2 with ⟨e2, _⟩ | ⟨g, cap, cur, e2, hb, _⟩
  · simp only [Value.slice.injEq] at e2
    rw [e2.1] at e
    cases e
  · simp only [Value.slice.injEq] at e2
    rw [e2.1] at e
    simp only [Option.some.injEq, Addr.mk.injEq] at e
    omega
/-- What stands while the operations of a copy get rows of their own. -/
structure CopyAt (W : World) (gr gc go cap lo hi : Nat) (x : Ptm) (d1 : Option Addr) (e1 : Nat) (zs : List Om) : Prop where
  res : PatB W gr (.string ⟨#[]⟩) (.slice none 0 0) (.slice none 0 0)
  c : PatB W gc (.string x.name) (.slice d1 x.deps.length e1) (.slice (some ⟨go, 0, none⟩) x.ops.length cap)
  deps : OwnS W lo (.slice d1 x.deps.length e1) x.deps
  blk : opR.Blk W go cap zs
  each : ∀ z ∈ zs, z.Ok W W.heap.size ∧ z.Out lo hi ∧ ∀ G, G < lo → (∀ o ∈ x.ops, o.Off G) → z.Off G
  keys : okeys zs = okeys x.ops
  lor : lo ≤ gr
  loc : lo ≤ gc
  loo : lo ≤ go
  hir : gr < hi
  hic : gc < hi
  hio : go < hi
  hid : ∀ b off, d1 = some ⟨b, off, none⟩ → b < hi
  neo : gc ≠ go
  nro : gr ≠ go
  hi_le : hi ≤ W.heap.size
section
variable {W W' : World} {gr gc go cap lo hi : Nat} {x : Ptm} {d1 : Option Addr} {e1 : Nat} {zs : List Om}
theorem CopyAt.on (h : CopyAt W gr gc go cap lo hi x d1 e1 zs) (hb : Below W.heap.size W W') : CopyAt W' gr gc go cap lo hi x d1 e1 zs :=
  ⟨h.res.on hb, h.c.on hb, h.deps.kept hb, h.blk.on hb, fun z hz => ⟨(h.each z hz).1.on hb, (h.each z hz).2⟩, h.keys, h.lor, h.loc, h.loo, h.hir, h.hic, h.hio, h.hid, h.neo, h.nro, Nat.le_trans h.hi_le hb.size⟩
theorem CopyAt.len (h : CopyAt W gr gc go cap lo hi x d1 e1 zs) : zs.length = x.ops.length := by rw [← okeys_len zs, h.keys, okeys_len]
theorem dep_ne_op {v : Value} {ls : List (List UInt8)} {B : Nat} (h : OwnS W B v ls) (k : opR.Blk W go cap zs) : ∀ q, v.ownBlock = some q → some go ≠ some q := fun q hq e => by
  simp only [Option.some.injEq] at e
  subst e
  rcases h.2 with ⟨rfl, _⟩ | ⟨p, cp, cur, rfl, _, hg, _⟩
  · cases hq
  · have hp : p = go := by simpa [Value.ownBlock] using hq
    subst hp
    obtain ⟨cur2, h1, _⟩ := k.h
    rw [h1] at hg
    simp only [Option.some.injEq, Obj.cells.injEq] at hg
    exact absurd hg.2.1 (by decide)
theorem CopyAt.set (h : CopyAt W gr gc go cap lo hi x d1 e1 zs) {ys : List Om} (hg : W.grownBy W' (some go)) (hk : opR.Blk W' go cap ys) (he : ∀ z ∈ ys, z.Ok W W.heap.size ∧ z.Out lo hi ∧ ∀ G, G < lo → (∀ o ∈ x.ops, o.Off G) → z.Off G) (hks : okeys ys = okeys x.ops) : CopyAt W' gr gc go cap lo hi x d1 e1 ys :=
  ⟨⟨(hg.block gr h.res.lt (fun e => h.nro (by injection e))).trans h.res.blk⟩, ⟨(hg.block gc h.c.lt (fun e => h.neo (by injection e))).trans h.c.blk⟩, owns_grown h.deps hg (dep_ne_op h.deps h.blk), hk, fun z hz => ⟨(he z hz).1.apart (he z hz).2.1 hg h.loo h.hio, (he z hz).2⟩, hks, h.lor, h.loc, h.loo, h.hir, h.hic, h.hio, h.hid, h.neo, h.nro, Nat.le_trans h.hi_le hg.size⟩
/-- What a round writes. -/
structure CopyStep (w2 : World) (gr gc go cap lo hi k : Nat) (x : Ptm) (d1 : Option Addr) (e1 : Nat) (zs : List Om) (o : Om) (p1 : Option Addr) (q1 : Nat) (p2 : Option Addr) (q2 : Nat) : Prop where
  m0 : w2.cell? ⟨go, k * 16 + 13, none⟩ = some (.slice o.a1 o.dels.length o.c1)
  f0 : w2.frozen? ⟨go, k * 16 + 13, none⟩ = false
  m1 : (w2.setCell ⟨go, k * 16 + 13, none⟩ (.slice p1 o.dels.length q1)).cell? ⟨go, k * 16 + 15, none⟩ = some (.slice o.a2 o.lines.length o.c2)
  f1 : (w2.setCell ⟨go, k * 16 + 13, none⟩ (.slice p1 o.dels.length q1)).frozen? ⟨go, k * 16 + 15, none⟩ = false
  g1 : ∀ {wa : World}, wa.grownBy w2 (some go) → wa.grownBy (w2.setCell ⟨go, k * 16 + 13, none⟩ (.slice p1 o.dels.length q1)) (some go)
  g2 : ∀ {wa : World}, wa.grownBy w2 (some go) → wa.grownBy ((w2.setCell ⟨go, k * 16 + 13, none⟩ (.slice p1 o.dels.length q1)).setCell ⟨go, k * 16 + 15, none⟩ (.slice p2 o.lines.length q2)) (some go)
  next : CopyAt ((w2.setCell ⟨go, k * 16 + 13, none⟩ (.slice p1 o.dels.length q1)).setCell ⟨go, k * 16 + 15, none⟩ (.slice p2 o.lines.length q2)) gr gc go cap lo hi x d1 e1 (zs.set k { o with a1 := p1, c1 := q1, a2 := p2, c2 := q2 })
theorem CopyAt.step (h : CopyAt W gr gc go cap lo hi x d1 e1 zs) {k : Nat} (hk : k < zs.length) {o : Om} (ho : zs[k] = o) {p1 p2 : Option Addr} {q1 q2 B1 B2 : Nat} (hd : OwnId W B1 (.slice p1 o.dels.length q1) o.dels) (hl : OwnS W B2 (.slice p2 o.lines.length q2) o.lines) (b1 : hi ≤ B1) (b2 : hi ≤ B2) : CopyStep W gr gc go cap lo hi k x d1 e1 zs o p1 q1 p2 q2 := by
  have k1 := Rk.Blk.put1 h.blk hk (show 13 < opR.k by decide) { o with a1 := p1, c1 := q1 } (.slice p1 o.dels.length q1) (by rw [ho]; rfl)
  have hk1 : k < (zs.set k { o with a1 := p1, c1 := q1 }).length := by rw [List.length_set]; exact hk
  have k2 := Rk.Blk.put1 k1 hk1 (show 15 < opR.k by decide) { o with a1 := p1, c1 := q1, a2 := p2, c2 := q2 } (.slice p2 o.lines.length q2) (by rw [List.getElem_set_self]; rfl)
  have hg1 : W.grownBy (W.setCell ⟨go, k * 16 + 13, none⟩ (.slice p1 o.dels.length q1)) (some go) := grownBy_set _ _ _ _
  have hg2 : (W.setCell ⟨go, k * 16 + 13, none⟩ (.slice p1 o.dels.length q1)).grownBy ((W.setCell ⟨go, k * 16 + 13, none⟩ (.slice p1 o.dels.length q1)).setCell ⟨go, k * 16 + 15, none⟩ (.slice p2 o.lines.length q2)) (some go) := grownBy_set _ _ _ _
  have hok := (h.each zs[k] (List.getElem_mem _)).1
  rw [ho] at hok
  obtain ⟨s1, s2, s3⟩ := hl.at_
  have i1 := hd.parts
  refine ⟨?_, h.blk.fz _, ?_, k1.fz _, fun g => Rk.grown_both g hg1, fun g => Rk.grown_both (Rk.grown_both g hg1) hg2, ?_⟩
  · have e := h.blk.cell hk (r := 13) (u := .slice o.a1 o.dels.length o.c1) (by rw [ho]; rfl)
    exact e
  · have e := k1.cell hk1 (r := 15) (u := .slice o.a2 o.lines.length o.c2) (by rw [List.getElem_set_self]; rfl)
    exact e
  · rw [List.set_set] at k2
    refine h.set (Rk.grown_both hg1 hg2) k2 (fun z hz => ?_) ?_
    · rcases List.mem_or_eq_of_mem_set hz with hz | rfl
      · exact h.each z hz
      · refine ⟨⟨i1.2.1, i1.2.2.1, s1, s2⟩, ⟨fun b off _ e => .inr (Nat.le_trans b1 (ownid_in hd b off e)), fun b off _ e => .inr (Nat.le_trans b2 (owns_at hl b off e))⟩, fun G hG _ => ⟨fun b off _ e => by have h1 := ownid_in hd b off e; have h2 := h.loo; have h3 := h.hio; omega, fun b off _ e => by have h1 := owns_at hl b off e; have h2 := h.loo; have h3 := h.hio; omega⟩⟩
    · rw [← h.keys]
      unfold okeys
      rw [List.map_set, show Om.key { o with a1 := p1, c1 := q1, a2 := p2, c2 := q2 } = Om.key zs[k] by rw [ho]; rfl]
      refine List.ext_getElem (by simp) fun j h1 h2 => ?_
      rw [List.getElem_set]
      split
      · rename_i e
        subst e
        simp
      · rfl
end
theorem keys_few {zs xs : List Om} (h : okeys zs = okeys xs) (hf : ∀ o ∈ xs, o.dels.length ≤ 100000 ∧ o.lines.length ≤ 100000) : ∀ z ∈ zs, z.dels.length ≤ 100000 ∧ z.lines.length ≤ 100000 := fun z hz => by
  have h1 : z.key ∈ okeys xs := by rw [← h]; exact List.mem_map.2 ⟨z, hz, rfl⟩
  obtain ⟨y, hy, e⟩ := List.mem_map.1 h1
  have h2 := hf y hy
  have e1 : y.dels.length = z.dels.length := by
    have e2 := congrArg (fun k => (OpK.dels k).length) e
    have a1 : y.key.dels.length = y.dels.length := ikeys_len _
    have a2 : z.key.dels.length = z.dels.length := ikeys_len _
    rw [← a1, ← a2]
    exact e2
  have e2 : y.lines = z.lines := congrArg OpK.lines e
  rw [← e1, ← e2]
  exact h2
set_option maxHeartbeats 8000000 in
set_option maxRecDepth 100000 in
theorem pcopy_any (x : Ptm) (w : World) (ox : x.Ok w w.heap.size) (hnd : x.deps.length ≤ 100000) (hno : x.ops.length ≤ 100000) (hf : ∀ o ∈ x.ops, o.dels.length ≤ 100000 ∧ o.lines.length ≤ 100000) :
    Calls Tryz.prog 32 #[.agg #[.string x.name, .slice x.a1 x.deps.length x.c1, .slice x.a2 x.ops.length x.c2]] w fun e w' => ∃ z : Ptm, e = .returned z.val ∧ Hid (z.key = x.key) ∧ z.Ok w' w'.heap.size ∧ Hid (OpsFew z.ops) ∧ Hid (∀ G, G < w.heap.size → (∀ o ∈ x.ops, o.Off G) → z.Off G) ∧ Below w.heap.size w w' := by
  obtain ⟨hb0, hx0⟩ := pat_box w x
  obtain ⟨hb1, hx1⟩ := patb_box (w.alloc (.cells #[.string x.name, .slice x.a1 x.deps.length x.c1, .slice x.a2 x.ops.length x.c2] 35)) (.string ⟨#[]⟩) (.slice none 0 0) (.slice none 0 0)
  have es : (w.alloc (.cells #[.string x.name, .slice x.a1 x.deps.length x.c1, .slice x.a2 x.ops.length x.c2] 35)).heap.size = w.heap.size + 1 := by simp
  have hb2 := hb0.trans (hb1.mono hb0.size)
  have HP := Lib.hid (hx0.on hb1)
  rw [es] at hx1
  have HRs := Lib.hid hx1
  have HB := Lib.hid hb2
  have OX := Lib.hid (ox.on hb2)
  have OX0 := Lib.hid ox
  have HF := Lib.hid hf
  clear hb0 hx0 hb1 hx1 es hb2 ox hf
  go_enter Tryz.func32, Tryz.ntmps32
  go_upto_region 1 with (fail)
  generalize ((w.alloc (.cells #[.string x.name, .slice x.a1 x.deps.length x.c1, .slice x.a2 x.ops.length x.c2] 35)).alloc (.cells #[.string ⟨#[]⟩, .slice none 0 0, .slice none 0 0] 35)) = wb at *
  have HLr : Hid (w.heap.size + 1 < wb.heap.size) := HRs.out.lt
  generalize hvx : (Value.agg #[.string x.name, .slice x.a1 x.deps.length x.c1, .slice x.a2 x.ops.length x.c2]) = vx
  clear hvx
  have p0 := HP.out.c0
  have p1 := HP.out.c1
  have p2 := HP.out.c2
  -- @P1
  go_cut [3] from 6 to 14 (fun v wx => ∃ gc d1 e1 d2 e2, v = .pointer (some ⟨gc, 0, none⟩) ∧ Hid (OwnS wx wb.heap.size (.slice d1 x.deps.length e1) x.deps) ∧ Hid (opR.Own wx wb.heap.size (.slice d2 x.ops.length e2) x.ops) ∧ Hid (PatB wx (w.heap.size + 1) (.string ⟨#[]⟩) (.slice none 0 0) (.slice none 0 0)) ∧ Hid (PatB wx gc (.string x.name) (.slice d1 x.deps.length e1) (.slice d2 x.ops.length e2)) ∧ Hid (Below wb.heap.size wb wx) ∧ Hid (wb.heap.size ≤ gc))
  case first =>
    have HDR : Hid (Below wb.heap.size wb wb.drew) := (Below.refl _ _).drew
    refine wp_region_noPanic ?_
    refine wp_region_held_drew (S := fun W => Below wb.heap.size wb W) (by kernel_rfl) HDR.out (fun hHeld => ?_)
    refine wpAnyH_take (i := 0) (oi := { dst := some 6, op := _, type := _, pos := _, after := _, guard := _ }) (v := .pointer (some ⟨w.heap.size, 0, none⟩)) rfl (by kernel_rfl) (by kernel_rfl) (by kernel_rfl) (fun _ _ _ h => h) (Or.inl ⟨by rfl, fun w' hSw => ?_⟩) (by assumption) ?_
    · ((try dsimp only at hSw); go_simp)
    try simp only [Act.put, List.setIfInBounds_toArray, List.set_cons_zero, List.set_cons_succ]
    refine wpAnyH_take (i := 1) (oi := { dst := some 7, op := _, type := _, pos := _, after := _, guard := _ }) (v := .string x.name) rfl (by kernel_rfl) (by kernel_rfl) (by kernel_rfl) (fun _ _ _ h => h) (Or.inl ⟨by rfl, fun w' hSw => ?_⟩) (by assumption) ?_
    · (have q0 := (hSw.cell (rec_cell_lt p0)).trans p0; have q1 := (hSw.cell (rec_cell_lt p1)).trans p1; have q2 := (hSw.cell (rec_cell_lt p2)).trans p2; go_simp)
    try simp only [Act.put, List.setIfInBounds_toArray, List.set_cons_zero, List.set_cons_succ]
    refine wpAnyH_take (i := 2) (oi := { dst := some 8, op := _, type := _, pos := _, after := _, guard := _ }) (v := .pointer (some ⟨w.heap.size, 1, none⟩)) rfl (by kernel_rfl) (by kernel_rfl) (by kernel_rfl) (fun _ _ _ h => h) (Or.inl ⟨by rfl, fun w' hSw => ?_⟩) (by assumption) ?_
    · ((try dsimp only at hSw); go_simp)
    try simp only [Act.put, List.setIfInBounds_toArray, List.set_cons_zero, List.set_cons_succ]
    refine wpAnyH_take (i := 3) (oi := { dst := some 9, op := _, type := _, pos := _, after := _, guard := _ }) (v := .slice x.a1 x.deps.length x.c1) rfl (by kernel_rfl) (by kernel_rfl) (by kernel_rfl) (fun _ _ _ h => h) (Or.inl ⟨by rfl, fun w' hSw => ?_⟩) (by assumption) ?_
    · (have q0 := (hSw.cell (rec_cell_lt p0)).trans p0; have q1 := (hSw.cell (rec_cell_lt p1)).trans p1; have q2 := (hSw.cell (rec_cell_lt p2)).trans p2; go_simp)
    try simp only [Act.put, List.setIfInBounds_toArray, List.set_cons_zero, List.set_cons_succ]
    refine wpAnyH_take (i := 5) (oi := { dst := some 11, op := _, type := _, pos := _, after := _, guard := _ }) (v := .pointer (some ⟨w.heap.size, 2, none⟩)) rfl (by kernel_rfl) (by kernel_rfl) (by kernel_rfl) (fun _ _ _ h => h) (Or.inl ⟨by rfl, fun w' hSw => ?_⟩) (by assumption) ?_
    · ((try dsimp only at hSw); go_simp)
    try simp only [Act.put, List.setIfInBounds_toArray, List.set_cons_zero, List.set_cons_succ]
    refine wpAnyH_take (i := 6) (oi := { dst := some 12, op := _, type := _, pos := _, after := _, guard := _ }) (v := .slice x.a2 x.ops.length x.c2) rfl (by kernel_rfl) (by kernel_rfl) (by kernel_rfl) (fun _ _ _ h => h) (Or.inl ⟨by rfl, fun w' hSw => ?_⟩) (by assumption) ?_
    · (have q0 := (hSw.cell (rec_cell_lt p0)).trans p0; have q1 := (hSw.cell (rec_cell_lt p1)).trans p1; have q2 := (hSw.cell (rec_cell_lt p2)).trans p2; go_simp)
    try simp only [Act.put, List.setIfInBounds_toArray, List.set_cons_zero, List.set_cons_succ]
    have XB0 := Lib.hid HDR.out
    have hbd : Below wb.heap.size wb wb.drew := HDR.out
    replace HRs := Lib.hid (HRs.out.on hbd)
    clear hbd p0 p1 p2
    generalize hwD : wb.drew = wD at *
    clear hwD HDR
    refine wpAnyH_ready (rs := [4, 9]) (by kernel_rfl) (by simp) ?_
    refine (AllReadyH.cons rfl (fun K hK => ?_) (AllReadyH.cons rfl (fun K hK => ?_) AllReadyH.nil))
    · go_simp
      go_at_call 54
      refine (sclone_any x.a1 x.deps x.c1 _ (OX.out.deps.on XB0.out) OX.out.room1 hnd).mono ?_
      rintro e wc1 ⟨d1, e1, rfl, ho, hb⟩
      have HD := Lib.hid (owns_lower ho XB0.out.size)
      replace HRs := Lib.hid (HRs.out.on hb)
      have XC1 := Lib.hid (XB0.out.trans (hb.mono XB0.out.size))
      clear ho hb
      refine hK.out _ _ XC1.out (fun hHeld4 => ?_)
      clear hK K hHeld
      try simp only [Act.put, List.setIfInBounds_toArray, List.set_cons_zero, List.set_cons_succ]
      refine wpAnyH_ready (rs := [7, 9]) (by kernel_rfl) (by simp) ?_
      refine (AllReadyH.cons rfl (fun K hK => ?_) (AllReadyH.cons rfl (fun K hK => ?_) AllReadyH.nil))
      · go_simp
        go_at_call 55
        refine (oclone_any x.a2 x.ops x.c2 _ (OX.out.ops.on XC1.out).1 OX.out.room2 hno).mono ?_
        rintro e wc2 ⟨d2, e2, rfl, ho, hb⟩
        have HO := Lib.hid (Rk.Own.lower ho XC1.out.size)
        replace HRs := Lib.hid (HRs.out.on hb)
        replace HD := Lib.hid (HD.out.kept hb)
        have XC2 := Lib.hid (XC1.out.trans (hb.mono XC1.out.size))
        clear ho hb
        refine hK.out _ _ XC2.out (fun hHeld7 => ?_)
        clear hK K hHeld4
        try simp only [Act.put, List.setIfInBounds_toArray, List.set_cons_zero, List.set_cons_succ]
        refine wpAnyH_take (i := 8) (oi := { dst := some 14, op := _, type := _, pos := _, after := _, guard := _ }) (v := .agg #[.string x.name, .slice d1 x.deps.length e1, .slice d2 x.ops.length e2]) rfl (by kernel_rfl) (by kernel_rfl) (by kernel_rfl) (fun _ _ _ h => h) (Or.inl ⟨by rfl, fun w' hSw => ?_⟩) (by assumption) ?_
        · ((try dsimp only at hSw); go_simp)
        try simp only [Act.put, List.setIfInBounds_toArray, List.set_cons_zero, List.set_cons_succ]
        refine wpAnyH_ready (rs := [9]) (by kernel_rfl) (by simp) ?_
        refine (AllReadyH.cons rfl (fun K hK => ?_) AllReadyH.nil)
        · obtain ⟨hb, hc⟩ := patb_box wc2 (.string ⟨#[]⟩) (.slice none 0 0) (.slice none 0 0)
          have XA3 := Lib.hid (XC2.out.trans (hb.mono XC2.out.size))
          replace HRs := Lib.hid (HRs.out.on hb)
          replace HD := Lib.hid (HD.out.kept hb)
          replace HO := Lib.hid (Rk.Own.kept HO.out hb)
          have HC := Lib.hid hc
          have HLc : Hid (wb.heap.size ≤ wc2.heap.size) := XC2.out.size
          clear hb hc
          go_simp
          refine hK.out _ _ XA3.out (fun hHeld9 => ?_)
          clear hK K hHeld7
          try simp only [Act.put, List.setIfInBounds_toArray, List.set_cons_zero, List.set_cons_succ]
          generalize hwn : (wc2.alloc (.cells #[.string ⟨#[]⟩, .slice none 0 0, .slice none 0 0] 35)) = wa3 at *
          clear hwn
          have HE := Lib.hid (copy_end HD.out HO.out HRs.out HC.out XA3.out HLr.out HLc.out (.string x.name) (.slice d1 x.deps.length e1) (.slice d2 x.ops.length e2))
          have m0 := HC.out.c0
          have m1 := HC.out.c1
          have m2 := HC.out.c2
          have mf0 := HC.out.fz 0
          have mf1 := HC.out.fz 1
          have mf2 := HC.out.fz 2
          refine wpAnyH_ready (rs := [10]) (by kernel_rfl) (by simp) ?_
          refine AllReadyH.cons rfl (fun K hK => ?_) AllReadyH.nil
          go_simp
          refine hK.out _ _ (HE.out.1) (fun hHeld10 => ?_)
          clear hK K hHeld9 m0 m1 m2 mf0 mf1 mf2
          try simp only [Act.put, List.setIfInBounds_toArray, List.set_cons_zero, List.set_cons_succ]
          generalize hwn : (((wa3.setCell ⟨wc2.heap.size, 0, none⟩ (.string x.name)).setCell ⟨wc2.heap.size, 1, none⟩ (.slice d1 x.deps.length e1)).setCell ⟨wc2.heap.size, 2, none⟩ (.slice d2 x.ops.length e2)) = wt at *
          clear hwn
          refine wpAnyH_done (by kernel_rfl) ?_ _
          refine NoPanic.normal ?_
          go_wp2_with fail
          go_meet
          case rel => exact ⟨wc2.heap.size, d1, e1, d2, e2, rfl, HE.out.2.1, HE.out.2.2.1, HE.out.2.2.2.1, HE.out.2.2.2.2, HE.out.1, HLc.out⟩
      · obtain ⟨hb, hc⟩ := patb_box wc1 (.string ⟨#[]⟩) (.slice none 0 0) (.slice none 0 0)
        have XA4 := Lib.hid (XC1.out.trans (hb.mono XC1.out.size))
        replace HRs := Lib.hid (HRs.out.on hb)
        replace HD := Lib.hid (HD.out.kept hb)
        have HC := Lib.hid hc
        have HLc : Hid (wb.heap.size ≤ wc1.heap.size) := XC1.out.size
        clear hb hc
        go_simp
        refine hK.out _ _ XA4.out (fun hHeld9 => ?_)
        clear hK K hHeld4
        try simp only [Act.put, List.setIfInBounds_toArray, List.set_cons_zero, List.set_cons_succ]
        generalize hwn : (wc1.alloc (.cells #[.string ⟨#[]⟩, .slice none 0 0, .slice none 0 0] 35)) = wa4 at *
        clear hwn
        refine wpAnyH_ready (rs := [7]) (by kernel_rfl) (by simp) ?_
        refine (AllReadyH.cons rfl (fun K hK => ?_) AllReadyH.nil)
        · go_simp
          go_at_call 55
          refine (oclone_any x.a2 x.ops x.c2 _ (OX.out.ops.on XA4.out).1 OX.out.room2 hno).mono ?_
          rintro e wc5 ⟨d2, e2, rfl, ho, hb⟩
          have HO := Lib.hid (Rk.Own.lower ho XA4.out.size)
          replace HRs := Lib.hid (HRs.out.on hb)
          replace HD := Lib.hid (HD.out.kept hb)
          replace HC := Lib.hid (HC.out.on hb)
          have XC5 := Lib.hid (XA4.out.trans (hb.mono XA4.out.size))
          clear ho hb
          refine hK.out _ _ XC5.out (fun hHeld7 => ?_)
          clear hK K hHeld9
          try simp only [Act.put, List.setIfInBounds_toArray, List.set_cons_zero, List.set_cons_succ]
          refine wpAnyH_take (i := 8) (oi := { dst := some 14, op := _, type := _, pos := _, after := _, guard := _ }) (v := .agg #[.string x.name, .slice d1 x.deps.length e1, .slice d2 x.ops.length e2]) rfl (by kernel_rfl) (by kernel_rfl) (by kernel_rfl) (fun _ _ _ h => h) (Or.inl ⟨by rfl, fun w' hSw => ?_⟩) (by assumption) ?_
          · ((try dsimp only at hSw); go_simp)
          try simp only [Act.put, List.setIfInBounds_toArray, List.set_cons_zero, List.set_cons_succ]
          have HE := Lib.hid (copy_end HD.out HO.out HRs.out HC.out XC5.out HLr.out HLc.out (.string x.name) (.slice d1 x.deps.length e1) (.slice d2 x.ops.length e2))
          have m0 := HC.out.c0
          have m1 := HC.out.c1
          have m2 := HC.out.c2
          have mf0 := HC.out.fz 0
          have mf1 := HC.out.fz 1
          have mf2 := HC.out.fz 2
          refine wpAnyH_ready (rs := [10]) (by kernel_rfl) (by simp) ?_
          refine AllReadyH.cons rfl (fun K hK => ?_) AllReadyH.nil
          go_simp
          refine hK.out _ _ (HE.out.1) (fun hHeld10 => ?_)
          clear hK K hHeld7 m0 m1 m2 mf0 mf1 mf2
          try simp only [Act.put, List.setIfInBounds_toArray, List.set_cons_zero, List.set_cons_succ]
          generalize hwn : (((wc5.setCell ⟨wc1.heap.size, 0, none⟩ (.string x.name)).setCell ⟨wc1.heap.size, 1, none⟩ (.slice d1 x.deps.length e1)).setCell ⟨wc1.heap.size, 2, none⟩ (.slice d2 x.ops.length e2)) = wt at *
          clear hwn
          refine wpAnyH_done (by kernel_rfl) ?_ _
          refine NoPanic.normal ?_
          go_wp2_with fail
          go_meet
          case rel => exact ⟨wc1.heap.size, d1, e1, d2, e2, rfl, HE.out.2.1, HE.out.2.2.1, HE.out.2.2.2.1, HE.out.2.2.2.2, HE.out.1, HLc.out⟩
    · obtain ⟨hb, hc⟩ := patb_box wD (.string ⟨#[]⟩) (.slice none 0 0) (.slice none 0 0)
      have XA6 := Lib.hid (XB0.out.trans (hb.mono XB0.out.size))
      replace HRs := Lib.hid (HRs.out.on hb)
      have HC := Lib.hid hc
      have HLc : Hid (wb.heap.size ≤ wD.heap.size) := XB0.out.size
      clear hb hc
      go_simp
      refine hK.out _ _ XA6.out (fun hHeld9 => ?_)
      clear hK K hHeld
      try simp only [Act.put, List.setIfInBounds_toArray, List.set_cons_zero, List.set_cons_succ]
      generalize hwn : (wD.alloc (.cells #[.string ⟨#[]⟩, .slice none 0 0, .slice none 0 0] 35)) = wa6 at *
      clear hwn
      refine wpAnyH_ready (rs := [4]) (by kernel_rfl) (by simp) ?_
      refine (AllReadyH.cons rfl (fun K hK => ?_) AllReadyH.nil)
      · go_simp
        go_at_call 54
        refine (sclone_any x.a1 x.deps x.c1 _ (OX.out.deps.on XA6.out) OX.out.room1 hnd).mono ?_
        rintro e wc7 ⟨d1, e1, rfl, ho, hb⟩
        have HD := Lib.hid (owns_lower ho XA6.out.size)
        replace HRs := Lib.hid (HRs.out.on hb)
        replace HC := Lib.hid (HC.out.on hb)
        have XC7 := Lib.hid (XA6.out.trans (hb.mono XA6.out.size))
        clear ho hb
        refine hK.out _ _ XC7.out (fun hHeld4 => ?_)
        clear hK K hHeld9
        try simp only [Act.put, List.setIfInBounds_toArray, List.set_cons_zero, List.set_cons_succ]
        refine wpAnyH_ready (rs := [7]) (by kernel_rfl) (by simp) ?_
        refine (AllReadyH.cons rfl (fun K hK => ?_) AllReadyH.nil)
        · go_simp
          go_at_call 55
          refine (oclone_any x.a2 x.ops x.c2 _ (OX.out.ops.on XC7.out).1 OX.out.room2 hno).mono ?_
          rintro e wc8 ⟨d2, e2, rfl, ho, hb⟩
          have HO := Lib.hid (Rk.Own.lower ho XC7.out.size)
          replace HRs := Lib.hid (HRs.out.on hb)
          replace HC := Lib.hid (HC.out.on hb)
          replace HD := Lib.hid (HD.out.kept hb)
          have XC8 := Lib.hid (XC7.out.trans (hb.mono XC7.out.size))
          clear ho hb
          refine hK.out _ _ XC8.out (fun hHeld7 => ?_)
          clear hK K hHeld4
          try simp only [Act.put, List.setIfInBounds_toArray, List.set_cons_zero, List.set_cons_succ]
          refine wpAnyH_take (i := 8) (oi := { dst := some 14, op := _, type := _, pos := _, after := _, guard := _ }) (v := .agg #[.string x.name, .slice d1 x.deps.length e1, .slice d2 x.ops.length e2]) rfl (by kernel_rfl) (by kernel_rfl) (by kernel_rfl) (fun _ _ _ h => h) (Or.inl ⟨by rfl, fun w' hSw => ?_⟩) (by assumption) ?_
          · ((try dsimp only at hSw); go_simp)
          try simp only [Act.put, List.setIfInBounds_toArray, List.set_cons_zero, List.set_cons_succ]
          have HE := Lib.hid (copy_end HD.out HO.out HRs.out HC.out XC8.out HLr.out HLc.out (.string x.name) (.slice d1 x.deps.length e1) (.slice d2 x.ops.length e2))
          have m0 := HC.out.c0
          have m1 := HC.out.c1
          have m2 := HC.out.c2
          have mf0 := HC.out.fz 0
          have mf1 := HC.out.fz 1
          have mf2 := HC.out.fz 2
          refine wpAnyH_ready (rs := [10]) (by kernel_rfl) (by simp) ?_
          refine AllReadyH.cons rfl (fun K hK => ?_) AllReadyH.nil
          go_simp
          refine hK.out _ _ (HE.out.1) (fun hHeld10 => ?_)
          clear hK K hHeld7 m0 m1 m2 mf0 mf1 mf2
          try simp only [Act.put, List.setIfInBounds_toArray, List.set_cons_zero, List.set_cons_succ]
          generalize hwn : (((wc8.setCell ⟨wD.heap.size, 0, none⟩ (.string x.name)).setCell ⟨wD.heap.size, 1, none⟩ (.slice d1 x.deps.length e1)).setCell ⟨wD.heap.size, 2, none⟩ (.slice d2 x.ops.length e2)) = wt at *
          clear hwn
          refine wpAnyH_done (by kernel_rfl) ?_ _
          refine NoPanic.normal ?_
          go_wp2_with fail
          go_meet
          case rel => exact ⟨wD.heap.size, d1, e1, d2, e2, rfl, HE.out.2.1, HE.out.2.2.1, HE.out.2.2.2.1, HE.out.2.2.2.2, HE.out.1, HLc.out⟩
  case rest =>
    obtain ⟨gc, d1, e1, d2, e2, rfl, HD, HO, HRz, HCz, HBB, HLC⟩ := hcut
    clear HP HRs p0 p1 p2
    have HB0 := Lib.hid (HB.out.trans (HBB.out.mono HB.out.size))
    have HD0 := Lib.hid (owns_lower HD.out HB.out.size)
    rcases Rk.own_cases HO.out with ⟨e, h0⟩ | ⟨go, cap, e, hgo, hblk⟩
    · have hz : x.ops.length = 0 := by rw [h0]; rfl
      have HZ0 := Lib.hid h0
      obtain ⟨n, hn⟩ : ∃ n, x.ops.length = n := ⟨_, rfl⟩
      rw [hn] at HCz hz
      subst hz
      have HN := Lib.hid hn
      have r0 := HRz.out.c0
      have r1 := HRz.out.c1
      have r2 := HRz.out.c2
      have rf0 := HRz.out.fz 0
      have rf1 := HRz.out.fz 1
      have rf2 := HRz.out.fz 2
      have p0 := HCz.out.c0
      have p1 := HCz.out.c1
      have p2 := HCz.out.c2
      have hg3 := grown_set3 wc (w.heap.size + 1) (.string x.name) (.slice d1 x.deps.length e1) (.slice d2 0 e2)
      have HQ := Lib.hid (patb_set3 HRz.out (.string x.name) (.slice d1 x.deps.length e1) (.slice d2 0 e2))
      have HBQ := Lib.hid (HB0.out.grown hg3 HB0.out.size (fun q hq => by simp only [Option.some.injEq] at hq; omega))
      have HDQ := Lib.hid (owns_grown HD0.out hg3 (fun k hk e => owned_ne_pat HD0.out HRz.out (by decide) k hk (by simp only [Option.some.injEq] at e; exact e.symm)))
      have HRM : Hid (Room d2 0 e2) := by
        have h := HO.out.parts.2.2.1
        rw [hn] at h
        exact h
      clear hg3 e h0 hn HO
      -- @P2
      go_wp2
      go_loopw [18] (fun iv wr => iv = .int .i64 0 ∧ wr = wc) (fun _ _ => 0)
      case atStart => exact ⟨rfl, rfl⟩
      case round =>
        obtain ⟨rfl, hw⟩ := hrel
        subst hw
        go_wp2
        (try simp only [Exit.inBlock, Exit.then])
        refine bodyPost_ret (ret_pat rfl _ _ (w.heap.size + 1) (.string x.name) (.slice d1 x.deps.length e1) (.slice d2 0 e2) rfl HQ.out) rfl ?_
        refine ⟨⟨x.name, d1, e1, x.deps, d2, e2, []⟩, rfl, ?_, ?_, (fun o ho => by simp at ho), (fun G hG _ => ⟨fun b off _ e => by have h1 := owns_at HDQ.out b off e; omega, fun b off hp _ => absurd hp (by simp), fun o ho => by simp at ho⟩), HBQ.out⟩
        · show (⟨x.name.data.toList, x.deps, []⟩ : PatK) = x.key
          unfold Ptm.key
          rw [HZ0.out]
          rfl
        · obtain ⟨s1, s2, s3⟩ := HDQ.out.at_
          exact ⟨s1, s2, ⟨Rk.Row.nil, fun o ho => by simp at ho⟩, HRM.out⟩
    · have hd2 := hblk.len
      have e3 : d2 = some ⟨go, 0, none⟩ ∧ e2 = cap := by
        simp only [Value.slice.injEq] at e
        exact ⟨e.1, e.2.2⟩
      obtain ⟨rfl, rfl⟩ := e3
      have hst : CopyAt wc (w.heap.size + 1) gc go e2 w.heap.size wc.heap.size x d1 e1 x.ops := ⟨HRz.out, HCz.out, HD0.out, hblk, fun z hz => ⟨(OX0.out.ops.2 z hz).on HB0.out, (OX0.out.ops.2 z hz).out (Nat.le_refl _), fun G _ h => h z hz⟩, rfl, by omega, by
          have h1 := HB.out.size
          have h2 := HLC.out
          omega, Nat.le_trans HB.out.size hgo, HRz.out.lt, HCz.out.lt, hblk.lt, fun b off e => by
          rcases HD0.out.2 with ⟨e4, _⟩ | ⟨q, cp, cur, e4, _, hg, _⟩
          · simp only [Value.slice.injEq] at e4
            rw [e4.1] at e
            cases e
          · simp only [Value.slice.injEq] at e4
            rw [e4.1] at e
            simp only [Option.some.injEq, Addr.mk.injEq] at e
            have h5 := (Array.getElem?_eq_some_iff.1 hg).1
            omega, fun e => owned_ne_pat HO.out HCz.out (by decide) go rfl e.symm, fun e => owned_ne_pat HO.out HRz.out (by decide) go rfl e.symm, Nat.le_refl _⟩
      have HST := Lib.hid hst
      have HLO : Hid (w.heap.size ≤ go) := hst.loo
      have HG0 : Hid (wc.grownBy wc (some go)) := grownBy_refl _ _
      have p2 := HCz.out.c2
      clear hst HD HD0 HO HRz HCz hblk hgo e hd2
      generalize hhi : wc.heap.size = hi at *
      clear hhi
      -- @P3
      go_wp2_with fail
      go_loopw [18] (fun iv wr => ∃ (k : Nat) (zs : List Om), iv = .int .i64 (k : Int) ∧ k ≤ x.ops.length ∧ Hid (CopyAt wr (w.heap.size + 1) gc go e2 w.heap.size hi x d1 e1 zs) ∧ Hid (wc.grownBy wr (some go))) (fun iv _ => x.ops.length - (intOf iv).toNat)
      case atStart => exact ⟨0, x.ops, rfl, Nat.zero_le _, HST.out, HG0.out⟩
      case round =>
        clear HST HG0 p2
        obtain ⟨k, zs, rfl, hk, HK, HG⟩ := hrel
        by_cases hlt : k < x.ops.length
        · have hkz : k < zs.length := by rw [HK.out.len]; exact hlt
          have HFO := Lib.hid (keys_few HK.out.keys HF.out zs[k] (List.getElem_mem _))
          have HOK := Lib.hid (HK.out.each zs[k] (List.getElem_mem _)).1
          have hrx := fun (j : Nat) (v : Value) (hv : (opR.enc zs[k])[j]? = some v) => HK.out.blk.cell hkz hv
          obtain ⟨o, ho⟩ : ∃ o, zs[k] = o := ⟨_, rfl⟩
          rw [ho] at HFO HOK hrx
          have RX : Hid (wr.rangeAt go (k * 16) [.int .i64 o.kind, .string o.self.p, .int .i64 o.self.n, .string o.parent.p, .int .i64 o.parent.n, .string o.dst.p, .int .i64 o.dst.n, .string o.name, .string o.dname, .string o.left.p, .int .i64 o.left.n, .string o.right.p, .int .i64 o.right.n, .slice o.a1 o.dels.length o.c1, .int .i64 o.first, .slice o.a2 o.lines.length o.c2]) := fun j v hv => hrx j v hv
          have HZO := Lib.hid ho
          obtain ⟨hbx, hX⟩ := op_box wr o
          have HX := Lib.hid hX
          have HNX : Hid (wr.heap.size ≠ go) := by show _ ≠ _; have := HK.out.blk.lt; omega
          replace HK := Lib.hid (HK.out.on hbx)
          replace HOK := Lib.hid (HOK.out.on hbx)
          have HG1 := Lib.hid (Rk.grown_below HG.out hbx)
          have u0 : (0 : Int) ≤ (k : Int) := by omega
          have u1 : (k : Int) < (x.ops.length : Int) := by omega
          clear hbx hX hrx HG
          go_upto_region 5 with (refine wpList_load_mid rfl 84 _ rfl go (k * 16) rfl [.int .i64 o.kind, .string o.self.p, .int .i64 o.self.n, .string o.parent.p, .int .i64 o.parent.n, .string o.dst.p, .int .i64 o.dst.n, .string o.name, .string o.dname, .string o.left.p, .int .i64 o.left.n, .string o.right.p, .int .i64 o.right.n, .slice o.a1 o.dels.length o.c1, .int .i64 o.first, .slice o.a2 o.lines.length o.c2] _ RX.out Tryz.underlying84 rfl (by kernel_rfl) ?_)
          generalize (wr.alloc (.cells #[.int .i64 o.kind, .string o.self.p, .int .i64 o.self.n, .string o.parent.p, .int .i64 o.parent.n, .string o.dst.p, .int .i64 o.dst.n, .string o.name, .string o.dname, .string o.left.p, .int .i64 o.left.n, .string o.right.p, .int .i64 o.right.n, .slice o.a1 o.dels.length o.c1, .int .i64 o.first, .slice o.a2 o.lines.length o.c2] 84)) = wa at *
          generalize hgx : wr.heap.size = gx at *
          clear RX hgx
          generalize (Value.agg #[.int .i64 o.kind, .string o.self.p, .int .i64 o.self.n, .string o.parent.p, .int .i64 o.parent.n, .string o.dst.p, .int .i64 o.dst.n, .string o.name, .string o.dname, .string o.left.p, .int .i64 o.left.n, .string o.right.p, .int .i64 o.right.n, .slice o.a1 o.dels.length o.c1, .int .i64 o.first, .slice o.a2 o.lines.length o.c2]) = vo
          have p2 := HK.out.c.c2
          have o1 := (op_cells HX.out).dels
          have o2 := (op_cells HX.out).lines
          have HNC : Hid (gc ≠ go) := HK.out.neo
          clear HX
          -- @P4
          have HG0 : Hid (wa.grownBy wa.drew (some go)) := Rk.grown_below (grownBy_refl _ _) ((Below.refl wa.heap.size wa).drew)
          refine wp_region_noPanic ?_
          refine wp_region_held_drew (S := fun W => wa.grownBy W (some go)) (by kernel_rfl) HG0.out (fun hHeld => ?_)
          refine wpAnyH_take (i := 0) (oi := { dst := some 23, op := _, type := _, pos := _, after := _, guard := _ }) (v := .pointer (some ⟨gc, 2, none⟩)) rfl (by kernel_rfl) (by kernel_rfl) (by kernel_rfl) (fun _ _ _ h => h) (Or.inl ⟨by rfl, fun w' hSw => ?_⟩) (by assumption) ?_
          · ((try dsimp only at hSw); go_simp)
          try simp only [Act.put, List.setIfInBounds_toArray, List.set_cons_zero, List.set_cons_succ]
          refine wpAnyH_take (i := 1) (oi := { dst := some 24, op := _, type := _, pos := _, after := _, guard := _ }) (v := .slice (some ⟨go, 0, none⟩) x.ops.length e2) rfl (by kernel_rfl) (by kernel_rfl) (by kernel_rfl) (fun _ _ _ h => h) (Or.inl ⟨by rfl, fun w' hSw => ?_⟩) (by assumption) ?_
          · (have q0 := cell_far hSw p2 HNC.out; have q1 := cell_far hSw o1 HNX.out; have q2 := cell_far hSw o2 HNX.out; go_simp)
          try simp only [Act.put, List.setIfInBounds_toArray, List.set_cons_zero, List.set_cons_succ]
          refine wpAnyH_take (i := 2) (oi := { dst := some 25, op := _, type := _, pos := _, after := _, guard := _ }) (v := .int .i64 (k : Int)) rfl (by kernel_rfl) (by kernel_rfl) (by kernel_rfl) (fun _ _ _ h => h) (Or.inl ⟨by rfl, fun w' hSw => ?_⟩) (by assumption) ?_
          · ((try dsimp only at hSw); go_simp)
          try simp only [Act.put, List.setIfInBounds_toArray, List.set_cons_zero, List.set_cons_succ]
          refine wpAnyH_take (i := 3) (oi := { dst := some 26, op := _, type := _, pos := _, after := _, guard := _ }) (v := .pointer (some ⟨gc, 2, none⟩)) rfl (by kernel_rfl) (by kernel_rfl) (by kernel_rfl) (fun _ _ _ h => h) (Or.inl ⟨by rfl, fun w' hSw => ?_⟩) (by assumption) ?_
          · ((try dsimp only at hSw); go_simp)
          try simp only [Act.put, List.setIfInBounds_toArray, List.set_cons_zero, List.set_cons_succ]
          refine wpAnyH_take (i := 4) (oi := { dst := some 27, op := _, type := _, pos := _, after := _, guard := _ }) (v := .slice (some ⟨go, 0, none⟩) x.ops.length e2) rfl (by kernel_rfl) (by kernel_rfl) (by kernel_rfl) (fun _ _ _ h => h) (Or.inl ⟨by rfl, fun w' hSw => ?_⟩) (by assumption) ?_
          · (have q0 := cell_far hSw p2 HNC.out; have q1 := cell_far hSw o1 HNX.out; have q2 := cell_far hSw o2 HNX.out; go_simp)
          try simp only [Act.put, List.setIfInBounds_toArray, List.set_cons_zero, List.set_cons_succ]
          refine wpAnyH_take (i := 5) (oi := { dst := some 28, op := _, type := _, pos := _, after := _, guard := _ }) (v := .int .i64 (k : Int)) rfl (by kernel_rfl) (by kernel_rfl) (by kernel_rfl) (fun _ _ _ h => h) (Or.inl ⟨by rfl, fun w' hSw => ?_⟩) (by assumption) ?_
          · ((try dsimp only at hSw); go_simp)
          try simp only [Act.put, List.setIfInBounds_toArray, List.set_cons_zero, List.set_cons_succ]
          refine wpAnyH_take (i := 6) (oi := { dst := some 29, op := _, type := _, pos := _, after := _, guard := _ }) (v := .pointer (some ⟨gx, 13, none⟩)) rfl (by kernel_rfl) (by kernel_rfl) (by kernel_rfl) (fun _ _ _ h => h) (Or.inl ⟨by rfl, fun w' hSw => ?_⟩) (by assumption) ?_
          · ((try dsimp only at hSw); go_simp)
          try simp only [Act.put, List.setIfInBounds_toArray, List.set_cons_zero, List.set_cons_succ]
          refine wpAnyH_take (i := 7) (oi := { dst := some 30, op := _, type := _, pos := _, after := _, guard := _ }) (v := .slice o.a1 o.dels.length o.c1) rfl (by kernel_rfl) (by kernel_rfl) (by kernel_rfl) (fun _ _ _ h => h) (Or.inl ⟨by rfl, fun w' hSw => ?_⟩) (by assumption) ?_
          · (have q0 := cell_far hSw p2 HNC.out; have q1 := cell_far hSw o1 HNX.out; have q2 := cell_far hSw o2 HNX.out; go_simp)
          try simp only [Act.put, List.setIfInBounds_toArray, List.set_cons_zero, List.set_cons_succ]
          refine wpAnyH_take (i := 9) (oi := { dst := some 32, op := _, type := _, pos := _, after := _, guard := _ }) (v := .pointer (some ⟨gx, 15, none⟩)) rfl (by kernel_rfl) (by kernel_rfl) (by kernel_rfl) (fun _ _ _ h => h) (Or.inl ⟨by rfl, fun w' hSw => ?_⟩) (by assumption) ?_
          · ((try dsimp only at hSw); go_simp)
          try simp only [Act.put, List.setIfInBounds_toArray, List.set_cons_zero, List.set_cons_succ]
          refine wpAnyH_take (i := 10) (oi := { dst := some 33, op := _, type := _, pos := _, after := _, guard := _ }) (v := .slice o.a2 o.lines.length o.c2) rfl (by kernel_rfl) (by kernel_rfl) (by kernel_rfl) (fun _ _ _ h => h) (Or.inl ⟨by rfl, fun w' hSw => ?_⟩) (by assumption) ?_
          · (have q0 := cell_far hSw p2 HNC.out; have q1 := cell_far hSw o1 HNX.out; have q2 := cell_far hSw o2 HNX.out; go_simp)
          try simp only [Act.put, List.setIfInBounds_toArray, List.set_cons_zero, List.set_cons_succ]
          have hbd : Below wa.heap.size wa wa.drew := (Below.refl wa.heap.size wa).drew
          replace HK := Lib.hid (HK.out.on hbd)
          have HOK := Lib.hid (HOK.out.on hbd)
          clear hbd
          generalize hwD : wa.drew = wD at *
          clear hwD p2 o1 o2
          refine wpAnyH_ready (rs := [8]) (by kernel_rfl) (by simp) ?_
          refine AllReadyH.cons rfl (fun K hK => ?_) AllReadyH.nil
          go_simp
          go_at_call 56
          refine (iclone_any o.a1 o.dels o.c1 _ HOK.out.dels HOK.out.room1 HFO.out.1).mono ?_
          rintro e w1 ⟨d3, e3, rfl, ho, hb⟩
          have HD := Lib.hid ho
          have HLD : Hid (hi ≤ wD.heap.size) := HK.out.hi_le
          replace HK := Lib.hid (HK.out.on hb)
          replace HOK := Lib.hid (HOK.out.on hb)
          have HG1 := Lib.hid (Rk.grown_below HG0.out hb)
          clear ho hb
          refine hK.out _ _ (HG1.out) (fun hHeld8 => ?_)
          clear hK K hHeld HG0
          try simp only [Act.put, List.setIfInBounds_toArray, List.set_cons_zero, List.set_cons_succ]
          refine wpAnyH_ready (rs := [11]) (by kernel_rfl) (by simp) ?_
          refine AllReadyH.cons rfl (fun K hK => ?_) AllReadyH.nil
          go_simp
          go_at_call 54
          refine (sclone_any o.a2 o.lines o.c2 _ HOK.out.lines HOK.out.room2 HFO.out.2).mono ?_
          rintro e w2 ⟨d4, e4, rfl, ho, hb⟩
          have HLL : Hid (hi ≤ w1.heap.size) := HK.out.hi_le
          have HE := Lib.hid ho
          replace HK := Lib.hid (HK.out.on hb)
          replace HD := Lib.hid (Rk.Own.kept HD.out hb)
          have HG2 := Lib.hid (Rk.grown_below HG1.out hb)
          clear ho hb HOK
          refine hK.out _ _ (HG2.out) (fun hHeld11 => ?_)
          clear hK K hHeld8 HG1
          try simp only [Act.put, List.setIfInBounds_toArray, List.set_cons_zero, List.set_cons_succ]
          refine wpAnyH_take (i := 12) (oi := { dst := some 35, op := _, type := _, pos := _, after := _, guard := _ }) (v := .pointer (some ⟨go, k * 16, none⟩)) rfl (by kernel_rfl) (by kernel_rfl) (by kernel_rfl) (fun _ _ _ h => h) (Or.inl ⟨by rfl, fun w' hSw => ?_⟩) (by assumption) ?_
          · ((try dsimp only at hSw); go_simp)
          try simp only [Act.put, List.setIfInBounds_toArray, List.set_cons_zero, List.set_cons_succ]
          refine wpAnyH_take (i := 13) (oi := { dst := some 36, op := _, type := _, pos := _, after := _, guard := _ }) (v := .pointer (some ⟨go, k * 16 + 13, none⟩)) rfl (by kernel_rfl) (by kernel_rfl) (by kernel_rfl) (fun _ _ _ h => h) (Or.inl ⟨by rfl, fun w' hSw => ?_⟩) (by assumption) ?_
          · ((try dsimp only at hSw); go_simp)
          try simp only [Act.put, List.setIfInBounds_toArray, List.set_cons_zero, List.set_cons_succ]
          have HS := Lib.hid (HK.out.step hkz HZO.out HD.out HE.out HLD.out HLL.out)
          have HSn := Lib.hid HS.out.next
          have HSg1 := Lib.hid (HS.out.g1 HG2.out)
          have HSg2 := Lib.hid (HS.out.g2 HG2.out)
          have HSm1 := Lib.hid HS.out.m1
          have HSf1 := Lib.hid HS.out.f1
          have m0 := HS.out.m0
          have mf0 := HS.out.f0
          clear HS HD HE HK
          refine wpAnyH_ready (rs := [14]) (by kernel_rfl) (by simp) ?_
          refine AllReadyH.cons rfl (fun K hK => ?_) AllReadyH.nil
          go_simp
          refine hK.out _ _ (HSg1.out) (fun hHeld14 => ?_)
          clear hK K hHeld11 m0 mf0
          try simp only [Act.put, List.setIfInBounds_toArray, List.set_cons_zero, List.set_cons_succ]
          generalize hwn : (w2.setCell ⟨go, k * 16 + 13, none⟩ (.slice d3 o.dels.length e3)) = ws at *
          clear hwn HG2
          have m1 := HSm1.out
          have mf1 := HSf1.out
          refine wpAnyH_take (i := 15) (oi := { dst := some 37, op := _, type := _, pos := _, after := _, guard := _ }) (v := .pointer (some ⟨go, k * 16, none⟩)) rfl (by kernel_rfl) (by kernel_rfl) (by kernel_rfl) (fun _ _ _ h => h) (Or.inl ⟨by rfl, fun w' hSw => ?_⟩) (by assumption) ?_
          · ((try dsimp only at hSw); go_simp)
          try simp only [Act.put, List.setIfInBounds_toArray, List.set_cons_zero, List.set_cons_succ]
          refine wpAnyH_take (i := 16) (oi := { dst := some 38, op := _, type := _, pos := _, after := _, guard := _ }) (v := .pointer (some ⟨go, k * 16 + 15, none⟩)) rfl (by kernel_rfl) (by kernel_rfl) (by kernel_rfl) (fun _ _ _ h => h) (Or.inl ⟨by rfl, fun w' hSw => ?_⟩) (by assumption) ?_
          · ((try dsimp only at hSw); go_simp)
          try simp only [Act.put, List.setIfInBounds_toArray, List.set_cons_zero, List.set_cons_succ]
          refine wpAnyH_ready (rs := [17]) (by kernel_rfl) (by simp) ?_
          refine AllReadyH.cons rfl (fun K hK => ?_) AllReadyH.nil
          go_simp
          refine hK.out _ _ (HSg2.out) (fun hHeld17 => ?_)
          clear hK K hHeld14 m1 mf1
          try simp only [Act.put, List.setIfInBounds_toArray, List.set_cons_zero, List.set_cons_succ]
          generalize hwn : (ws.setCell ⟨go, k * 16 + 15, none⟩ (.slice d4 o.lines.length e4)) = wt at *
          clear hwn HSg1 HSm1 HSf1
          refine wpAnyH_done (by kernel_rfl) ?_ _
          refine NoPanic.normal ?_
          go_wp2
          go_roundw
          case rel => exact ⟨k + 1, _, by go_num, by omega, HSn.out, Rk.grown_both HG1.out HSg2.out⟩
          case measure => simp [intOf]; omega
        · have hke : k = x.ops.length := by omega
          have HRz := Lib.hid HK.out.res
          have HCz := Lib.hid HK.out.c
          have r0 := HRz.out.c0
          have r1 := HRz.out.c1
          have r2 := HRz.out.c2
          have rf0 := HRz.out.fz 0
          have rf1 := HRz.out.fz 1
          have rf2 := HRz.out.fz 2
          have p0 := HCz.out.c0
          have p1 := HCz.out.c1
          have p2 := HCz.out.c2
          have hg3 := grown_set3 wr (w.heap.size + 1) (.string x.name) (.slice d1 x.deps.length e1) (.slice (some ⟨go, 0, none⟩) x.ops.length e2)
          have HQ := Lib.hid (patb_set3 HRz.out (.string x.name) (.slice d1 x.deps.length e1) (.slice (some ⟨go, 0, none⟩) x.ops.length e2))
          have hB1 : Below w.heap.size w wr := HB0.out.grown HG.out HB0.out.size (fun q hq => by have h := HLO.out; simp only [Option.some.injEq] at hq; omega)
          have HBQ := Lib.hid (hB1.grown hg3 hB1.size (fun q hq => by simp only [Option.some.injEq] at hq; omega))
          have HDQ := Lib.hid (owns_grown HK.out.deps hg3 (fun k hk e => owned_ne_pat HK.out.deps HRz.out (by decide) k hk (by simp only [Option.some.injEq] at e; exact e.symm)))
          have HZS : Hid (∀ z ∈ zs, z.Ok (((wr.setCell ⟨w.heap.size + 1, 0, none⟩ (.string x.name)).setCell ⟨w.heap.size + 1, 1, none⟩ (.slice d1 x.deps.length e1)).setCell ⟨w.heap.size + 1, 2, none⟩ (.slice (some ⟨go, 0, none⟩) x.ops.length e2)) (((wr.setCell ⟨w.heap.size + 1, 0, none⟩ (.string x.name)).setCell ⟨w.heap.size + 1, 1, none⟩ (.slice d1 x.deps.length e1)).setCell ⟨w.heap.size + 1, 2, none⟩ (.slice (some ⟨go, 0, none⟩) x.ops.length e2)).heap.size) := fun z hz => (HK.out.each z hz).1.apart (HK.out.each z hz).2.1 hg3 HK.out.lor HK.out.hir
          have hro := HK.out.blk.own (Nat.le_refl go)
          rw [HK.out.len] at hro
          have HRO := Lib.hid (Rk.Own.grown hro hg3 (fun q hq e => HK.out.nro (by simp only [Value.ownBlock, Option.some.injEq] at hq e; omega)))
          have HKY := Lib.hid HK.out.keys
          have HOF : Hid (∀ o ∈ zs, ∀ G, G < w.heap.size → (∀ o ∈ x.ops, o.Off G) → o.Off G) := fun o ho => (HK.out.each o ho).2.2
          have HFW : Hid (OpsFew zs) := fun z hz => by
            have h := keys_few HK.out.keys HF.out z hz
            exact ⟨by omega, by omega⟩
          clear hg3 hB1 hro HG hke HK HF
          generalize hwq : ((wr.setCell ⟨w.heap.size + 1, 0, none⟩ (.string x.name)).setCell ⟨w.heap.size + 1, 1, none⟩ (.slice d1 x.deps.length e1)).setCell ⟨w.heap.size + 1, 2, none⟩ (.slice (some ⟨go, 0, none⟩) x.ops.length e2) = wq at HQ HBQ HDQ HZS HRO
          -- @P5
          go_wp2
          (try simp only [Exit.inBlock, Exit.then])
          refine bodyPost_ret (ret_pat rfl _ _ (w.heap.size + 1) (.string x.name) (.slice d1 x.deps.length e1) (.slice (some ⟨go, 0, none⟩) x.ops.length e2) rfl HQ.out) rfl ?_
          have hzl : zs.length = x.ops.length := by rw [← okeys_len zs, HKY.out, okeys_len]
          refine ⟨⟨x.name, d1, e1, x.deps, some ⟨go, 0, none⟩, e2, zs⟩, ?_, ?_, ?_, HFW, (fun G hG hx => ⟨fun b off _ e => by have h1 := owns_at HDQ.out b off e; omega, fun b off _ e => by have h1 := HLO.out; simp only [Option.some.injEq, Addr.mk.injEq] at e; omega, fun o ho => HOF.out o ho G hG hx⟩), HBQ.out⟩
          · show _ = Ending.returned (.agg #[.string x.name, .slice d1 x.deps.length e1, .slice (some ⟨go, 0, none⟩) zs.length e2])
            rw [hzl]
          · show (⟨x.name.data.toList, x.deps, okeys zs⟩ : PatK) = x.key
            rw [HKY.out]
            rfl
          · obtain ⟨s1, s2, s3⟩ := HDQ.out.at_
            refine ⟨s1, s2, ⟨HRO.out.parts.2.1, HZS.out⟩, ?_⟩
            exact HRO.out.parts.2.2.1
end Go.Proofs.YtifkpelcdihdoaaGreatDoor
