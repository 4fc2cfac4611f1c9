
/- Package diff's walked: the hunks of the walk. -/
import Derived.Test.YtmffmhadimeplaaDNext
namespace Go.Proofs.Ytmffmhadimeplaa
open Go.RowKit
set_option linter.unusedVariables false
attribute [local go_sem ↓] Go.wp_at_zero Go.wp_at_succ

section
variable {w w' : World} {G i j : Nat}
theorem Strs.moved {B : Nat} {A : Option Addr} {ss : List ByteArray} (s : Strs w B A ss) (mv : Moved G w w') (gi : IntAt w G i) (gj : IntAt w (G + 1) j) : Strs w' B A ss := fun hp => by
  obtain ⟨b, off, e, hlt, hc⟩ := s hp
  have h0 := hc 0 hp
  have hb : b < w.heap.size := by
    unfold World.cell? at h0
    rcases Nat.lt_or_ge b w.heap.size with h1 | h1
    · exact h1
    · rw [Array.getElem?_eq_none h1] at h0; simp at h0
  have hne : ∀ (g n : Nat), IntAt w g n → b ≠ g := by
    rintro g n hg rfl
    simp only [World.cell?, show w.heap[b]? = _ from hg] at h0
    match off, h0 with
    | 0, h0 => simp at h0
    | k + 1, h0 => simp at h0
  have hk : w'.heap[b]? = w.heap[b]? := by
    have h1 := hne G i gi
    have h2 := hne (G + 1) j gj
    by_cases h3 : b < G
    · exact mv.1.block b h3
    · exact mv.2 b (by omega) hb
  refine ⟨b, off, e, hlt, fun k hk2 => ?_⟩
  have := hc k hk2
  unfold World.cell? at this ⊢
  rw [hk]
  exact this
theorem Typed.moved {A : Option Addr} {ls : List (List UInt8)} (t : Typed w A ls) (mv : Moved G w w') (gi : IntAt w G i) (gj : IntAt w (G + 1) j) : Typed w' A ls := fun hp => by
  obtain ⟨b, off, cur, fz, e, hb⟩ := t hp
  have hlt := (Array.getElem?_eq_some_iff.1 hb).1
  have hne : ∀ (g n : Nat), IntAt w g n → b ≠ g := by
    rintro g n hg rfl
    rw [show w.heap[b]? = _ from hg] at hb
    simp only [Option.some.injEq, Obj.cells.injEq] at hb
    exact absurd hb.2.1 (by decide)
  have h1 := hne G i gi
  have h2 := hne (G + 1) j gj
  refine ⟨b, off, cur, fz, e, ?_⟩
  by_cases h3 : b < G
  · exact (mv.1.block b h3).trans hb
  · exact (mv.2 b (by omega) hlt).trans hb
theorem HRow.moved {v : Value} {ks : List Hm} (h : HRow w (G + 1 + 1) v ks) (mv : Moved G w w') (gi : IntAt w G i) (gj : IntAt w (G + 1) j) : HRow w' (G + 1 + 1) v ks := by
  refine ⟨⟨h.own.1, h.own.2.imp id ?_⟩, fun x hx => ?_⟩
  · rintro ⟨g, cap, cur, e, hb, hg, r⟩
    exact ⟨g, cap, cur, e, hb, (mv.2 g (by omega) (Array.getElem?_eq_some_iff.1 hg).1).trans hg, r⟩
  · obtain ⟨h1, ⟨h2, h3⟩, h4⟩ := h.ok x hx
    exact ⟨⟨(h1.old.moved mv gi gj).more mv.1.size, (h1.new.moved mv gi gj).more mv.1.size, h1.r1, h1.r2, h1.lo, h1.hi, h1.n1, h1.n2⟩, ⟨h2.moved mv gi gj, h3.moved mv gi gj⟩, h4⟩
theorem HunkAt.moved {g : Nat} {x : Hm} (h : HunkAt w g x) (mv : Moved G w w') (hg : G + 1 < g) : HunkAt w' g x := (mv.2 g hg h.lt).trans h
end
def lenOf : Value → Nat
  | .slice _ n _ => n
  | _ => 0
theorem HRow.len {w : World} {B : Nat} {v : Value} {ks : List Hm} (h : HRow w B v ks) : lenOf v = ks.length := by
  obtain ⟨A, cap, rfl, _⟩ := h.hks
  rfl
theorem hunk_count {α : Type} [DecidableEq α] : ∀ (l : List (Hk α)), May l → l.length ≤ sumOld l + sumNew l
  | [], _ => by simp
  | h :: l, hm => by
    have ih := hunk_count l hm.2.2
    have h1 : 0 < h.old.length + h.new.length := by
      rcases hm.1 with h1 | h1
      · have := List.length_pos_iff.2 h1; omega
      · have := List.length_pos_iff.2 h1; omega
    simp only [sumOld, sumNew, List.map_cons, List.sum_cons, List.length_cons] at ih ⊢
    omega
/-- Two things that a call makes lie apart. -/
def Apart (v : Value) (g : Nat) : Prop := ∀ q, v.ownBlock = some q → q ≠ g
/-- A hunk's block is written. -/
theorem HRow.grownH {w w' : World} {B g : Nat} {v : Value} {ks : List Hm} {x : Hm} (h : HRow w B v ks) (k : HunkAt w g x) (ap : Apart v g) (hg : w.grownBy w' (some g)) : HRow w' B v ks := by
  have hne : ∀ q, some g = some q → v.ownBlock ≠ some q := fun q e hq => by cases e; exact ap g hq rfl
  refine ⟨h.own.kept hg hne, fun y hy => ?_⟩
  obtain ⟨h1, ⟨h2, h3⟩, h4⟩ := h.ok y hy
  have hrow : ∀ q, some g = some q → ∃ z, HunkAt w q z := fun q e => ⟨x, by cases e; exact k⟩
  exact ⟨(h1.grown hg fun q e => .inr (hrow q e)).more hg.size, ⟨h2.grown hg fun q e => .inl (hrow q e), h3.grown hg fun q e => .inl (hrow q e)⟩, h4⟩
theorem below_grownG {w0 w w' : World} {B g : Nat} (hb : Below B w0 w) (hg : w.grownBy w' (some g)) (hB : B ≤ g) (hs : B ≤ w0.heap.size) : Below B w0 w' :=
  hb.grown hg (Nat.le_trans hs hb.size) fun k hk => by cases hk; exact hB
theorem IntAt.grownG {w w' : World} {G n g : Nat} (h : IntAt w G n) (hg : w.grownBy w' (some g)) (hne : G ≠ g) : IntAt w' G n := (hg.block G h.lt (fun e => hne (by cases e; rfl))).trans h
/-- The walked's memory: what there is of hunks, the hunk at hand in block g, the walker's numbers. -/
structure Wk (w0 w : World) (G a b m g : Nat) (A A2 : Option Addr) (cap cap2 : Nat) (tf : Value) (la lc : List (List UInt8)) (i j : Nat) (v : Value) (ks : List Hm) (x : Hm) : Prop where
  fix_ : WFix w G a b m A A2 cap cap2 tf la lc
  gi : IntAt w G i
  gj : IntAt w (G + 1) j
  row : HRow w (G + 1 + 1) v ks
  at_ : HunkAt w g x
  ap : Apart v g
  lt : G + 1 < g
  ok : x.Ok w w.heap.size ∧ Typed w x.a1 x.old ∧ Typed w x.a2 x.new
  il : i ≤ la.length
  jl : j ≤ lc.length
  below : Below w0.heap.size w0 w
  base : w0.heap.size ≤ G
  pos : 0 ≤ x.at_
  hi : x.at_ ≤ la.length

def at0 (w : World) (g : Nat) (n : Int) : World := w.setCell ⟨g, 0, none⟩ (.int .i64 n)
/-- A hunk is moved on, and comes to the row; its copy lies in a new block. -/
theorem Wk.push {w0 w w7 : World} {G a b m g gb capb : Nat} {A A2 : Option Addr} {cap cap2 : Nat} {tf : Value} {la lc : List (List UInt8)} {i j : Nat} {v : Value} {ks : List Hm} {x : Hm} {n : Int} (k : Wk w0 w G a b m g A A2 cap cap2 tf la lc i j v ks x) (hn : 0 ≤ n) (hn2 : n ≤ 100000)
    (ho : OwnH w7 (G + 1 + 1) (.slice (some ⟨gb, 0, none⟩) (ks.length + 1) capb) (ks ++ [{ x with at_ := n }])) (hg : ((w.setCell ⟨g, 0, none⟩ (.int .i64 n)).alloc (.cells #[.int .i64 n, .slice x.a1 x.old.length x.c1, .slice x.a2 x.new.length x.c2] 47)).grownBy w7 v.ownBlock) :
    HunkAt w7 g { x with at_ := n } ∧ (WFix w7 G a b m A A2 cap cap2 tf la lc ∧ IntAt w7 G i ∧ IntAt w7 (G + 1) j ∧ HRow w7 (G + 1 + 1) (.slice (some ⟨gb, 0, none⟩) (ks.length + 1) capb) (ks ++ [{ x with at_ := n }]) ∧ Below w0.heap.size w0 w7 ∧ G + 1 < w7.heap.size) := by
  have hlt := k.lt
  have hgs := k.at_.lt
  have g1 := grown_set w g 0 (.int .i64 n)
  have hal : Below (w.setCell ⟨g, 0, none⟩ (.int .i64 n)).heap.size (w.setCell ⟨g, 0, none⟩ (.int .i64 n)) ((w.setCell ⟨g, 0, none⟩ (.int .i64 n)).alloc (.cells #[.int .i64 n, .slice x.a1 x.old.length x.c1, .slice x.a2 x.new.length x.c2] 47)) := (Below.refl _ _).alloc (Nat.le_refl _) _
  have r1 := (k.row.grownH k.at_ k.ap g1).on hal
  have a1 := (k.at_.set0 n).on hal
  have ok1 : ({ x with at_ := n } : Hm).Ok (w.setCell ⟨g, 0, none⟩ (.int .i64 n)) (w.setCell ⟨g, 0, none⟩ (.int .i64 n)).heap.size := by
    have := (k.ok.1.grown g1 fun q e => .inr ⟨x, by cases e; exact k.at_⟩).more g1.size
    exact ⟨this.old, this.new, this.r1, this.r2, by show _ ≤ n; omega, by show n ≤ _; omega, this.n1, this.n2⟩
  have t1 : Typed (w.setCell ⟨g, 0, none⟩ (.int .i64 n)) x.a1 x.old := k.ok.2.1.grown g1 fun q e => .inl ⟨x, by cases e; exact k.at_⟩
  have t2 : Typed (w.setCell ⟨g, 0, none⟩ (.int .i64 n)) x.a2 x.new := k.ok.2.2.grown g1 fun q e => .inl ⟨x, by cases e; exact k.at_⟩
  have r2 := r1.push (x := { x with at_ := n }) ⟨ok1.on hal, ⟨t1.on hal, t2.on hal⟩, hn⟩ ho hg
  have hne : v.ownBlock ≠ some g := fun e => k.ap g e rfl
  have hge : ∀ q, v.ownBlock = some q → G + 1 + 1 ≤ q := fun q e => r1.own.lt e
  have bG : Below G w w7 := ((below_grownG (Below.refl G w) g1 (by omega) (by omega)).alloc (by simp [World.setCell]; omega) _).grown hg (by simp [World.setCell]; omega) fun q e => by have := hge q e; omega
  have b0 : Below w0.heap.size w0 w7 := by
    have hb := k.base
    exact ((below_grownG k.below g1 (by omega) (Nat.le_refl _)).alloc (by have := k.below.size; simp [World.setCell]; omega) _).grown hg (by have := k.below.size; simp [World.setCell]; omega) fun q e => by have := hge q e; omega
  have ints : ∀ (q n2 : Nat), IntAt w q n2 → q < G + 1 + 1 → IntAt w7 q n2 := fun q n2 h hq => by
    have h1 := (h.grownG g1 (by omega)).on hal
    exact (hg.block q h1.lt (fun e => by have := hge q e.symm; omega)).trans h1
  refine ⟨a1.grown hg hne, k.fix_.below bG, ints _ _ k.gi (by omega), ints _ _ k.gj (by omega), r2, b0, ?_⟩
  have := bG.size
  omega
/-- The next hunk comes to its block. -/
theorem Wk.next {w0 w7 w9 : World} {G a b m : Nat} {A A2 : Option Addr} {cap cap2 : Nat} {tf : Value} {la lc : List (List UInt8)} {i j i2 j2 : Nat} {v : Value} {ks : List Hm} {y x : Hm} (fx : WFix w7 G a b m A A2 cap cap2 tf la lc) (gi : IntAt w7 G i) (gj : IntAt w7 (G + 1) j) (row : HRow w7 (G + 1 + 1) v ks) (hb : Below w0.heap.size w0 w7) (hG : G + 1 < w7.heap.size) (base : w0.heap.size ≤ G)
    (gi2 : IntAt w9 G i2) (gj2 : IntAt w9 (G + 1) j2) (ok : x.Ok w9 w9.heap.size) (ty : Typed w9 x.a1 x.old ∧ Typed w9 x.a2 x.new) (pos : 0 ≤ x.at_) (hi : x.at_ ≤ la.length) (il : i2 ≤ la.length) (jl : j2 ≤ lc.length)
    (mv : Moved G (w7.alloc (.cells #[.int .i64 y.at_, .slice y.a1 y.old.length y.c1, .slice y.a2 y.new.length y.c2] 47)) w9) :
    HunkAt w9 w7.heap.size y ∧ Wk w0 (((w9.setCell ⟨w7.heap.size, 0, none⟩ (.int .i64 x.at_)).setCell ⟨w7.heap.size, 1, none⟩ (.slice x.a1 x.old.length x.c1)).setCell ⟨w7.heap.size, 2, none⟩ (.slice x.a2 x.new.length x.c2)) G a b m w7.heap.size A A2 cap cap2 tf la lc i2 j2 v ks x := by
  have hal : Below w7.heap.size w7 (w7.alloc (.cells #[.int .i64 y.at_, .slice y.a1 y.old.length y.c1, .slice y.a2 y.new.length y.c2] 47)) := (Below.refl _ _).alloc (Nat.le_refl _) _
  have n8 : HunkAt (w7.alloc (.cells #[.int .i64 y.at_, .slice y.a1 y.old.length y.c1, .slice y.a2 y.new.length y.c2] 47)) w7.heap.size y := HunkAt.new_ w7 y
  have n9 := n8.moved mv hG
  have r9 := (row.on hal).moved mv (gi.on hal) (gj.on hal)
  have ap : Apart v w7.heap.size := fun q hq => by have := row.lt q hq; omega
  have g9 : w9.grownBy (((w9.setCell ⟨w7.heap.size, 0, none⟩ (.int .i64 x.at_)).setCell ⟨w7.heap.size, 1, none⟩ (.slice x.a1 x.old.length x.c1)).setCell ⟨w7.heap.size, 2, none⟩ (.slice x.a2 x.new.length x.c2)) (some w7.heap.size) :=
    grown_trans (grown_trans (grown_set w9 w7.heap.size 0 _) (grown_set _ w7.heap.size 1 _)) (grown_set _ w7.heap.size 2 _)
  have hrow : ∀ q, some w7.heap.size = some q → ∃ z, HunkAt w9 q z := fun q e => ⟨y, by cases e; exact n9⟩
  have bG9 : Below G w7 w9 := (hal.mono (by omega)).trans mv.1
  have b09 : Below w0.heap.size w0 w9 := (hb.trans (hal.mono (by have := hb.size; omega))).trans (mv.1.mono base)
  refine ⟨n9, ⟨fx.below (below_grownG bG9 g9 (by omega) (by omega)), gi2.grownG g9 (by omega), gj2.grownG g9 (by omega), r9.grownH n9 ap g9, ((n9.set0 x.at_).set1 x.a1 x.old x.c1 _ rfl).set2 x.a2 x.new x.c2 _ rfl, ap, hG, ⟨(ok.grown g9 fun q e => .inr (hrow q e)).more g9.size, ty.1.grown g9 fun q e => .inl (hrow q e), ty.2.grown g9 fun q e => .inl (hrow q e)⟩, il, jl, below_grownG b09 g9 (by have := hb.size; omega) (Nat.le_refl _), base, pos, hi⟩⟩

set_option maxHeartbeats 4000000 in
set_option maxRecDepth 100000 in
theorem walked_any (A A2 : Option Addr) (la lc : List (List UInt8)) (cap cap2 : Nat) (w : World) (hA : Strs w w.heap.size A (toBs la)) (hC : Strs w w.heap.size A2 (toBs lc)) (hR : Room A la.length cap) (hR2 : Room A2 lc.length cap2) (hn : la.length ≤ 400) (hn2 : lc.length ≤ 400) :
    Calls Try.prog 23 #[.slice A la.length cap, .slice A2 lc.length cap2] w (HunksTold w (hunks la lc)) := by
  have hpre := pre_le la lc
  have hsh := hunks_shift la lc
  have htot : (hunks la lc).length ≤ 800 := by
    have h1 := hunks_facts la lc
    have h2 := hunk_count _ h1.2.1
    omega
  have CB := Lib.hid (begin_q A A2 la lc cap cap2 w hA hC (by omega) (by omega))
  obtain ⟨A3, c3, ld, e3, p3, r3⟩ := part_from A la cap (pre la lc) hR hpre.1
  obtain ⟨A4, c4, le, e4, p4, r4⟩ := part_from A2 lc cap2 (pre la lc) hR2 hpre.2
  have hl3 : ld.length ≤ 400 := by rw [e3, List.length_drop]; omega
  have hl4 : le.length ≤ 400 := by rw [e4, List.length_drop]; omega
  have hl3p : pre la lc + ld.length ≤ 400 := by rw [e3, List.length_drop]; omega
  rw [← e3, ← e4] at hsh
  have s3 := p3.strs _ _ hA
  have s4 := p4.strs _ _ hC
  have HA := Lib.hid s3
  have HC := Lib.hid s4
  have R3 := Lib.hid p3.room
  have R4 := Lib.hid p4.room
  clear e3 e4 p3 p4 hA hC hR hR2 s3 s4
  have hp1 := hpre.1
  have hp2 := hpre.2
  clear hpre
  generalize pre la lc = p at *
  have HSH := Lib.hid hsh
  clear hsh
  generalize hH : hunks la lc = H at *
  have HH0 := Lib.hid hH
  clear hH
  have CW : Hid (∀ w1 : World, Below w.heap.size w w1 → Calls Try.prog 33 #[.slice A3 ld.length c3, .slice A4 le.length c4] w1 fun e w' => ∃ (G a b m : Nat) (tf : Value), e = .returned (.func (.func 38) #[] #[.pointer (some ⟨a, 0, none⟩), .pointer (some ⟨G, 0, none⟩), .pointer (some ⟨b, 0, none⟩), .pointer (some ⟨G + 1, 0, none⟩), .pointer (some ⟨m, 0, none⟩)]) ∧
      Hid (WFix w' G a b m A3 A4 c3 c4 tf ld le ∧ IntAt w' G 0 ∧ IntAt w' (G + 1) 0 ∧ w.heap.size ≤ G ∧ Below w.heap.size w w')) := by
    intro w1 hb
    refine (walker_any A3 A4 ld le c3 c4 w1 (HA.out.on hb) (HC.out.on hb) R3.out R4.out (by omega) (by omega)).mono ?_
    rintro e w' ⟨G, a, b, m, tf, h1, ⟨h2, h3, h4, h5⟩, h6⟩
    have hs := hb.size
    exact ⟨G, a, b, m, tf, h1, h2, h3, h4, by omega, hb.trans (h6.mono hs)⟩
  go_enter Try.func23, Try.ntmps23
  go_wp2_with fail
  refine CB.out.mono ?_
  rintro e w1 ⟨rfl, q, rfl⟩
  clear CB
  go_wp2_with fail
  have q1 : (0 : Int) ≤ (p : Int) := by omega
  have q2 : (p : Int) ≤ (la.length : Int) := by omega
  have q3 : (p : Int) ≤ (lc.length : Int) := by omega
  go_region_held3 (fun _ => True) (trivial) (first | (go_at_call 33; refine (CW.out _ (by first | exact below_drewN (Below.refl _ _) _ | exact (below_drewN (Below.refl _ _) _).drew)).mono ?_; rintro e w2 ⟨G, a, b, m, tf, rfl, HW2⟩))
  all_goals (
    obtain ⟨fx, gi, gj, base, hb2⟩ := HW2.out
    clear HW2
    have hgj := gj.lt
    have CN := Lib.hid (next_any G a b m A3 A4 c3 c4 tf ld le 0 0 w2 fx gi gj (Nat.zero_le _) (Nat.zero_le _) hl3 hl4)
    have H2 : Hid (WFix w2 G a b m A3 A4 c3 c4 tf ld le ∧ IntAt w2 G 0 ∧ IntAt w2 (G + 1) 0 ∧ Below w.heap.size w w2) := ⟨fx, gi, gj, hb2⟩
    have HB := Lib.hid base
    clear fx gi gj hb2 base CW
    go_wp2_with fail
    refine CN.out.mono ?_
    rintro e w3 ⟨x, ok, i, j, he, ⟨il, jl⟩, h1, h2, ⟨pos, hi⟩, ⟨o1, t1, t2⟩, ⟨gi3, gj3⟩, mv⟩
    have he' : e = .returned (.tuple #[.agg #[.int .i64 x.at_, .slice x.a1 x.old.length x.c1, .slice x.a2 x.new.length x.c2], .bool ok]) := he
    subst he'
    clear CN he
    have hal : Below w3.heap.size w3 (w3.alloc (.cells #[.int .i64 x.at_, .slice x.a1 x.old.length x.c1, .slice x.a2 x.new.length x.c2] 47)) := (Below.refl _ _).alloc (Nat.le_refl _) _
    have W0 : Hid (Wk w (w3.alloc (.cells #[.int .i64 x.at_, .slice x.a1 x.old.length x.c1, .slice x.a2 x.new.length x.c2] 47)) G a b m w3.heap.size A3 A4 c3 c4 tf ld le i j (.slice none 0 0) [] x) := by
      have bs := HB.out
      have hsz := mv.1.size
      have h3 : Below w.heap.size w w3 := H2.out.2.2.2.trans (mv.1.mono bs)
      exact ⟨H2.out.1.below (mv.1.trans (hal.mono (by omega))), gi3.on hal, gj3.on hal, HRow.nil _ _, HunkAt.new_ w3 x, (fun q hq => by simp [Value.ownBlock] at hq), by omega, ⟨o1.on hal, t1.on hal, t2.on hal⟩, il, jl, h3.trans (hal.mono h3.size), bs, pos, hi⟩
    have HE1 : Hid (ok = true → H = plains [] ++ (x.plain :: HW ld le i j).map (shiftH p)) := fun h => by rw [HSH.out, h1 h]; rfl
    have HE2 : Hid (ok = false → H = plains []) := fun h => by rw [HSH.out, h2 h]; rfl
    clear h1 h2 o1 t1 t2 gi3 gj3 mv hal pos hi il jl H2
    go_wp2
    go_loopw [7, 8, 9] (fun v pv okv wr => ∃ (i j g : Nat) (ks : List Hm) (x : Hm) (ok : Bool), pv = .pointer (some ⟨g, 0, none⟩) ∧ okv = .bool ok ∧ Hid (Wk w wr G a b m g A3 A4 c3 c4 tf ld le i j v ks x) ∧ Hid (ok = true → H = plains ks ++ (x.plain :: HW ld le i j).map (shiftH p)) ∧ Hid (ok = false → H = plains ks)) (fun v _ _ _ => H.length - lenOf v)
    case atStart => exact ⟨i, j, w3.heap.size, [], x, ok, rfl, rfl, W0.out, HE1.out, HE2.out⟩
    case round =>
      clear W0 HE1 HE2
      obtain ⟨i, j, g, ks, x, ok, rfl, rfl, hwk, he1, he2⟩ := hrel
      cases ok with
      | false =>
        have hfin := Lib.hid (he2.out rfl)
        obtain ⟨A5, cap5, rfl, hk5, hr5⟩ := hwk.out.row.hks
        have HPOS := Lib.hid fun x hx => (hwk.out.row.ok x hx).2.2
        have HK5 := Lib.hid hk5
        have HR5 := Lib.hid hr5
        have HB5 := Lib.hid hwk.out.below
        clear he1 he2 hk5 hr5 hwk
        go_wp2
        go_ret
        exact ⟨A5, cap5, ks, rfl, ⟨hfin.out.symm, HPOS.out⟩, HR5.out, HK5.out, HB5.out⟩
      | true =>
        have hH := he1.out rfl
        have hlen := congrArg List.length hH
        have hwv := hwk.out.row.len
        simp only [plains, List.length_append, List.length_map, List.length_cons] at hlen
        have hkl : ks.length ≤ 100000 := by omega
        have hms : ks.length + 1 ≤ H.length := by omega
        have c0 := hwk.out.at_.c0
        have c1 := hwk.out.at_.c1
        have c2 := hwk.out.at_.c2
        have f0 := hwk.out.at_.f 0
        have pos := hwk.out.pos
        have hi := hwk.out.hi
        have i1 : IntKind.i64.wrap (x.at_ + (p : Int)) = x.at_ + (p : Int) := IntWalk.i64_in _ (by omega)
        have hd := hwk.out.at_.set0 (x.at_ + (p : Int))
        have hal : Below (wr.setCell ⟨g, 0, none⟩ (.int .i64 (x.at_ + (p : Int)))).heap.size (wr.setCell ⟨g, 0, none⟩ (.int .i64 (x.at_ + (p : Int)))) ((wr.setCell ⟨g, 0, none⟩ (.int .i64 (x.at_ + (p : Int)))).alloc (.cells #[.int .i64 (x.at_ + (p : Int)), .slice x.a1 x.old.length x.c1, .slice x.a2 x.new.length x.c2] 47)) := (Below.refl _ _).alloc (Nat.le_refl _) _
        have d0 := hd.c0
        have d1 := hd.c1
        have d2 := hd.c2
        have R5 := Lib.hid ((hwk.out.row.grownH hwk.out.at_ hwk.out.ap (grown_set wr g 0 (.int .i64 (x.at_ + (p : Int))))).on hal)
        have N5 : Hid (HunkAt ((wr.setCell ⟨g, 0, none⟩ (.int .i64 (x.at_ + (p : Int)))).alloc (.cells #[.int .i64 (x.at_ + (p : Int)), .slice x.a1 x.old.length x.c1, .slice x.a2 x.new.length x.c2] 47)) wr.heap.size { x with at_ := x.at_ + (p : Int) }) := by
          have := HunkAt.new_ (wr.setCell ⟨g, 0, none⟩ (.int .i64 (x.at_ + (p : Int)))) { x with at_ := x.at_ + (p : Int) }
          have e : (wr.setCell ⟨g, 0, none⟩ (.int .i64 (x.at_ + (p : Int)))).heap.size = wr.heap.size := by simp [World.setCell]
          rw [e] at this
          exact this
        have hgG := hwk.out.lt
        have hgs := hwk.out.at_.lt
        clear hal hd hH hlen
        go_wp2_with (at_builtin; refine wpList_append_hunk rfl _ _ rfl (G + 1 + 1) _ ks rfl R5.out.own { x with at_ := x.at_ + (p : Int) } wr.heap.size rfl N5.out ?_ hkl _ rfl ?_)
        · first | omega | (simp; omega)
        · intro gb capb w7 ho hg _
          obtain ⟨A7, fx7, gi7, gj7, r7, b7, hG7⟩ := hwk.out.push (n := x.at_ + (p : Int)) (by omega) (by omega) ho hg
          have il := hwk.out.il
          have jl := hwk.out.jl
          have base := hwk.out.base
          have hal : Below w7.heap.size w7 (w7.alloc (.cells #[.int .i64 (x.at_ + (p : Int)), .slice x.a1 x.old.length x.c1, .slice x.a2 x.new.length x.c2] 47)) := (Below.refl _ _).alloc (Nat.le_refl _) _
          have CN := Lib.hid (next_any G a b m A3 A4 c3 c4 tf ld le i j _ (fx7.below (hal.mono (by omega))) (gi7.on hal) (gj7.on hal) il jl hl3 hl4)
          have NX := Lib.hid fun (w9 : World) (x2 : Hm) (i2 j2 : Nat) => Wk.next (w0 := w) (w9 := w9) (i2 := i2) (j2 := j2) (x := x2) (y := { x with at_ := x.at_ + (p : Int) }) fx7 gi7 gj7 r7 b7 hG7 base
          have hpl : ({ x with at_ := x.at_ + (p : Int) } : Hm).plain = shiftH p x.plain := by
            unfold Hm.plain shiftH
            congr 1
            show (x.at_ + (p : Int)).toNat = x.at_.toNat + p
            omega
          have HE : Hid (H = plains (ks ++ [{ x with at_ := x.at_ + (p : Int) }]) ++ (HW ld le i j).map (shiftH p)) := by
            show _ = _
            rw [he1.out (by trivial), plains_snoc, hpl, List.append_assoc]
            rfl
          have g0 := A7.c0
          have g1 := A7.c1
          have g2 := A7.c2
          have HG7 := Lib.hid hG7
          clear A7 fx7 gi7 gj7 r7 b7 hG7 il jl base hal hpl ho hg c0 c1 c2 f0 d0 d1 d2 R5 N5 he1 he2 hwk
          go_wp2_with fail
          refine CN.out.mono ?_
          rintro e w9 ⟨x2, ok2, i2, j2, he, ⟨il2, jl2⟩, h1, h2, ⟨pos2, hi2⟩, ⟨o1, t1, t2⟩, ⟨gi9, gj9⟩, mv⟩
          have he' : e = .returned (.tuple #[.agg #[.int .i64 x2.at_, .slice x2.a1 x2.old.length x2.c1, .slice x2.a2 x2.new.length x2.c2], .bool ok2]) := he
          subst he'
          obtain ⟨n9, W9⟩ := NX.out w9 x2 i2 j2 gi9 gj9 o1 ⟨t1, t2⟩ pos2 hi2 il2 jl2 mv
          have c0 := n9.c0
          have c1 := n9.c1
          have c2 := n9.c2
          have f0 := n9.f 0
          have f1 := n9.f 1
          have f2 := n9.f 2
          have HW9 := Lib.hid W9
          have HE1 : Hid (ok2 = true → H = plains (ks ++ [{ x with at_ := x.at_ + (p : Int) }]) ++ (x2.plain :: HW ld le i2 j2).map (shiftH p)) := fun h => by rw [← h1 h]; exact HE.out
          have HE2 : Hid (ok2 = false → H = plains (ks ++ [{ x with at_ := x.at_ + (p : Int) }])) := fun h => by
            have := HE.out
            rw [h2 h] at this
            simpa using this
          clear he h1 h2 o1 t1 t2 gi9 gj9 mv n9 W9 CN NX HE
          go_wp2
          go_roundw
          case rel => exact ⟨i2, j2, w7.heap.size, _, x2, ok2, rfl, rfl, HW9.out, HE1.out, HE2.out⟩
          case measure =>
            have e : lenOf (.slice (some ⟨gb, 0, none⟩) (ks.length + 1) capb) = ks.length + 1 := rfl
            rw [e, hwv]
            omega)
end Go.Proofs.Ytmffmhadimeplaa
