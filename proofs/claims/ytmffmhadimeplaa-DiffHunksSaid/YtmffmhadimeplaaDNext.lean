
/- Package diff's walker's function: the next hunk. -/
import Derived.Test.YtmffmhadimeplaaDWalker
namespace Go.Proofs.Ytmffmhadimeplaa
open Go.RowKit
set_option linter.unusedVariables false
attribute [local go_sem ↓] Go.wp_at_zero Go.wp_at_succ

theorem begin_qq (A A2 : Option Addr) (la lc : List (List UInt8)) (cap cap2 : Nat) (w : World) (p : Nat) (hp : pre la lc = p) (hs : Strs w w.heap.size A (toBs la)) (ht : Strs w w.heap.size A2 (toBs lc)) (hn : la.length ≤ 1000000) (hn2 : lc.length ≤ 1000000) (n : Nat) :
    Calls Try.prog 27 #[.slice A la.length cap, .slice A2 lc.length cap2] (w.drewN n) fun e w' => e = .returned (.int .i64 (p : Int)) ∧ ∃ m, w' = w.drewN m := by
  subst hp
  exact Calls.quiet_of (begin_q A A2 la lc cap cap2 (w.drewN n) hs ht hn hn2)
def zeroHm : Hm := ⟨0, none, 0, [], none, 0, []⟩
/-- The memory while a hunk is sought: i, j: the walker's numbers; R: where the hunk will lie. -/
structure In1 (w w1 : World) (G i j : Nat) : Prop where
  mv : Moved G w w1
  gi : IntAt w1 G i
  gj : IntAt w1 (G + 1) j
  at_ : HunkAt w1 w.heap.size zeroHm
  sz : G + 1 < w.heap.size
section
variable {w w1 : World} {G i j : Nat}
theorem In1.drewN (h : In1 w w1 G i j) (n : Nat) : In1 w (w1.drewN n) G i j := ⟨h.mv.drewN n, h.gi, h.gj, h.at_, h.sz⟩
theorem In1.drew (h : In1 w w1 G i j) : In1 w w1.drew G i j := ⟨h.mv.drew, h.gi, h.gj, h.at_, h.sz⟩
theorem In1.set0 (h : In1 w w1 G i j) (k : Nat) : In1 w (w1.setCell ⟨G, 0, none⟩ (.int .i64 (k : Int))) G k j :=
  ⟨h.mv.set0, h.gi.set k, h.gj.other (by omega), (heap_set_ne (by have := h.sz; omega)).trans h.at_, h.sz⟩
theorem In1.set1 (h : In1 w w1 G i j) (k : Nat) : In1 w (w1.setCell ⟨G + 1, 0, none⟩ (.int .i64 (k : Int))) G i k :=
  ⟨h.mv.set1, h.gi.other (by omega), h.gj.set k, (heap_set_ne (by have := h.sz; omega)).trans h.at_, h.sz⟩
theorem In1.lt (h : In1 w w1 G i j) : w.heap.size < w1.heap.size := h.at_.lt
end
theorem In1.start {w : World} {G i j : Nat} (gi : IntAt w G i) (gj : IntAt w (G + 1) j) : In1 w (w.alloc (.cells #[.int .i64 0, .slice none 0 0, .slice none 0 0] 47)) G i j :=
  have hb : Below w.heap.size w (w.alloc (.cells #[.int .i64 0, .slice none 0 0, .slice none 0 0] 47)) := (Below.refl _ _).alloc (Nat.le_refl _) _
  ⟨(Moved.refl G w).on hb (by have := gi.lt; omega), gi.on hb, gj.on hb, HunkAt.new_ w zeroHm, gj.lt⟩

def cellN (w : World) (g : Nat) : Nat := match w.cell? ⟨g, 0, none⟩ with | some v => (intOf v).toNat | none => 0
theorem IntAt.n {w : World} {g n : Nat} (h : IntAt w g n) : cellN w g = n := by simp [cellN, h.c, intOf]
theorem In1.on {w w1 w2 : World} {G i j : Nat} (h : In1 w w1 G i j) (hb : Below w1.heap.size w1 w2) : In1 w w2 G i j :=
  ⟨h.mv.on hb (by have := h.gi.lt; omega), h.gi.on hb, h.gj.on hb, h.at_.on hb, h.sz⟩
/-- The hunk is laid where it is handed back. -/
theorem In1.fin {w w1 : World} {G i j : Nat} {h : Hm} (k : In1 w w1 G i j) (ok : h.Ok w1 w1.heap.size) (ty : Typed w1 h.a1 h.old ∧ Typed w1 h.a2 h.new) :
    HunkAt (((w1.setCell ⟨w.heap.size, 0, none⟩ (.int .i64 h.at_)).setCell ⟨w.heap.size, 1, none⟩ (.slice h.a1 h.old.length h.c1)).setCell ⟨w.heap.size, 2, none⟩ (.slice h.a2 h.new.length h.c2)) w.heap.size h ∧
    h.Ok (((w1.setCell ⟨w.heap.size, 0, none⟩ (.int .i64 h.at_)).setCell ⟨w.heap.size, 1, none⟩ (.slice h.a1 h.old.length h.c1)).setCell ⟨w.heap.size, 2, none⟩ (.slice h.a2 h.new.length h.c2)) (((w1.setCell ⟨w.heap.size, 0, none⟩ (.int .i64 h.at_)).setCell ⟨w.heap.size, 1, none⟩ (.slice h.a1 h.old.length h.c1)).setCell ⟨w.heap.size, 2, none⟩ (.slice h.a2 h.new.length h.c2)).heap.size ∧
    (Typed (((w1.setCell ⟨w.heap.size, 0, none⟩ (.int .i64 h.at_)).setCell ⟨w.heap.size, 1, none⟩ (.slice h.a1 h.old.length h.c1)).setCell ⟨w.heap.size, 2, none⟩ (.slice h.a2 h.new.length h.c2)) h.a1 h.old ∧ Typed (((w1.setCell ⟨w.heap.size, 0, none⟩ (.int .i64 h.at_)).setCell ⟨w.heap.size, 1, none⟩ (.slice h.a1 h.old.length h.c1)).setCell ⟨w.heap.size, 2, none⟩ (.slice h.a2 h.new.length h.c2)) h.a2 h.new) ∧
    (IntAt (((w1.setCell ⟨w.heap.size, 0, none⟩ (.int .i64 h.at_)).setCell ⟨w.heap.size, 1, none⟩ (.slice h.a1 h.old.length h.c1)).setCell ⟨w.heap.size, 2, none⟩ (.slice h.a2 h.new.length h.c2)) G i ∧ IntAt (((w1.setCell ⟨w.heap.size, 0, none⟩ (.int .i64 h.at_)).setCell ⟨w.heap.size, 1, none⟩ (.slice h.a1 h.old.length h.c1)).setCell ⟨w.heap.size, 2, none⟩ (.slice h.a2 h.new.length h.c2)) (G + 1) j) ∧
    Moved G w (((w1.setCell ⟨w.heap.size, 0, none⟩ (.int .i64 h.at_)).setCell ⟨w.heap.size, 1, none⟩ (.slice h.a1 h.old.length h.c1)).setCell ⟨w.heap.size, 2, none⟩ (.slice h.a2 h.new.length h.c2)) := by
  have hsz := k.sz
  have hg : w1.grownBy (((w1.setCell ⟨w.heap.size, 0, none⟩ (.int .i64 h.at_)).setCell ⟨w.heap.size, 1, none⟩ (.slice h.a1 h.old.length h.c1)).setCell ⟨w.heap.size, 2, none⟩ (.slice h.a2 h.new.length h.c2)) (some w.heap.size) :=
    grown_trans (grown_trans (grown_set w1 w.heap.size 0 _) (grown_set _ w.heap.size 1 _)) (grown_set _ w.heap.size 2 _)
  have ko := ok.grown hg (fun g e => .inr ⟨_, by cases e; exact k.at_⟩)
  refine ⟨((k.at_.set0 h.at_).set1 h.a1 h.old h.c1 _ rfl).set2 h.a2 h.new h.c2 _ rfl, ko.more hg.size, ⟨ty.1.grown hg fun g e => .inl ⟨_, by cases e; exact k.at_⟩, ty.2.grown hg fun g e => .inl ⟨_, by cases e; exact k.at_⟩⟩, ⟨?_, ?_⟩, ((k.mv.setR (Nat.le_refl _) (by omega)).setR (Nat.le_refl _) (by omega)).setR (Nat.le_refl _) (by omega)⟩
  · exact ((k.gi.other (by omega)).other (by omega)).other (by omega)
  · exact ((k.gj.other (by omega)).other (by omega)).other (by omega)
theorem ret_keep {w9 : World} {a b G R : Nat} {v1 v2 v3 v4 u0 u1 u2 : Value} (h1 : w9.cell? ⟨a, 0, none⟩ = some v1) (h2 : w9.cell? ⟨G, 0, none⟩ = some v2) (h3 : w9.cell? ⟨b, 0, none⟩ = some v3) (h4 : w9.cell? ⟨G + 1, 0, none⟩ = some v4) (ha : a < R) (hb : b < R) (hG : G + 1 < R) :
    ((((w9.setCell ⟨R, 0, none⟩ u0).setCell ⟨R, 1, none⟩ u1).setCell ⟨R, 2, none⟩ u2).cell? ⟨a, 0, none⟩ = some v1 ∧ (((w9.setCell ⟨R, 0, none⟩ u0).setCell ⟨R, 1, none⟩ u1).setCell ⟨R, 2, none⟩ u2).cell? ⟨G, 0, none⟩ = some v2 ∧ (((w9.setCell ⟨R, 0, none⟩ u0).setCell ⟨R, 1, none⟩ u1).setCell ⟨R, 2, none⟩ u2).cell? ⟨b, 0, none⟩ = some v3 ∧ (((w9.setCell ⟨R, 0, none⟩ u0).setCell ⟨R, 1, none⟩ u1).setCell ⟨R, 2, none⟩ u2).cell? ⟨G + 1, 0, none⟩ = some v4) := by
  have e : ∀ g : Nat, g < R → (((w9.setCell ⟨R, 0, none⟩ u0).setCell ⟨R, 1, none⟩ u1).setCell ⟨R, 2, none⟩ u2).cell? ⟨g, 0, none⟩ = w9.cell? ⟨g, 0, none⟩ := by
    intro g hg
    simp only [World.cell?]
    rw [heap_set_ne (by omega), heap_set_ne (by omega), heap_set_ne (by omega)]
  exact ⟨(e a ha).trans h1, (e G (by omega)).trans h2, (e b hb).trans h3, (e (G + 1) hG).trans h4⟩
theorem tails1_qq (la lc : List (List UInt8)) (i j B : Nat) (w : World) (tr ta tb : Nat) (I J : Int) (hI : I = (i : Int)) (hJ : J = (j : Int)) (hi : i ≤ la.length) (hj : j ≤ lc.length) (hn : la.length ≤ 10000) (hn2 : lc.length ≤ 10000)
    (h : Tails w B (.func (.func 37) #[] #[.pointer (some ⟨tr, 0, none⟩), .pointer (some ⟨ta, 0, none⟩), .pointer (some ⟨tb, 0, none⟩)]) la lc) (n : Nat) :
    Calls Try.prog 37 #[.int .i64 I, .int .i64 J, .pointer (some ⟨tr, 0, none⟩), .pointer (some ⟨ta, 0, none⟩), .pointer (some ⟨tb, 0, none⟩)] (w.drewN n) fun e w' => e = .returned (.int .i64 (lcs (la.drop i) (lc.drop j) : Int)) ∧ ∃ q, w' = w.drewN q := by
  subst hI hJ
  obtain ⟨r, a, b, h1, h2⟩ := tails1_q _ la lc i j B (w.drewN n) hi hj hn hn2 (h.below (below_drewN (Below.refl _ _) n))
  unfold ptr at h1 h2
  injection h1 with _ _ h3
  simp only [Array.mk.injEq, List.cons.injEq, Value.pointer.injEq, Option.some.injEq, Addr.mk.injEq, and_true] at h3
  obtain ⟨rfl, rfl, rfl⟩ := h3
  exact Calls.quiet_of h2
/-- What the walker's function leaves. -/
def Next (w : World) (G i j : Nat) (la lc : List (List UInt8)) (e : Ending) (w' : World) : Prop :=
  ∃ (x : Hm) (ok : Bool) (i2 j2 : Nat), e = .returned (.tuple #[.agg x.cells.toArray, .bool ok]) ∧ (i2 ≤ la.length ∧ j2 ≤ lc.length) ∧ (ok = true → HW la lc i j = x.plain :: HW la lc i2 j2) ∧ (ok = false → HW la lc i j = []) ∧ (0 ≤ x.at_ ∧ x.at_ ≤ la.length) ∧
    (x.Ok w' w'.heap.size ∧ Typed w' x.a1 x.old ∧ Typed w' x.a2 x.new) ∧ (IntAt w' G i2 ∧ IntAt w' (G + 1) j2) ∧ Moved G w w'

set_option maxHeartbeats 4000000 in
set_option maxRecDepth 100000 in
theorem next_any (G a b m : Nat) (A A2 : Option Addr) (cap cap2 : Nat) (tf : Value) (la lc : List (List UInt8)) (i j : Nat) (w : World) (hF : WFix w G a b m A A2 cap cap2 tf la lc) (gi : IntAt w G i) (gj : IntAt w (G + 1) j) (hi : i ≤ la.length) (hj : j ≤ lc.length) (hn : la.length ≤ 400) (hn2 : lc.length ≤ 400) :
    Calls Try.prog 38 #[.pointer (some ⟨a, 0, none⟩), .pointer (some ⟨G, 0, none⟩), .pointer (some ⟨b, 0, none⟩), .pointer (some ⟨G + 1, 0, none⟩), .pointer (some ⟨m, 0, none⟩)] w (Next w G i j la lc) := by
  obtain ⟨tr, ta, tb, rfl⟩ := hF.tl.fv
  have h0 := In1.start gi gj
  have F0 := hF.below h0.mv.1
  have HF := Lib.hid hF
  obtain ⟨A3, c3, ld, e3, p3, r3⟩ := part_from A la cap i hF.ra hi
  obtain ⟨A4, c4, le, e4, p4, r4⟩ := part_from A2 lc cap2 j hF.rc hj
  have hl3 : ld.length ≤ 400 := by rw [e3, List.length_drop]; omega
  have hl4 : le.length ≤ 400 := by rw [e4, List.length_drop]; omega
  obtain ⟨p, hp⟩ : ∃ p, pre ld le = p := ⟨_, rfl⟩
  have hG := h0.sz
  have hp1 := pre_le ld le
  rw [hp] at hp1
  have hpa : i + p ≤ la.length := by have := p3.len; omega
  have hpb : j + p ≤ lc.length := by have := p4.len; omega
  have hw0 := h0.lt
  have CB := Lib.hid (begin_qq A3 A4 ld le c3 c4 _ p hp ((p3.strs _ _ F0.sa).more (by omega)) ((p4.strs _ _ F0.sc).more (by omega)) (by omega) (by omega))
  have hpre : pre (la.drop i) (lc.drop j) = p := by rw [← e3, ← e4]; exact hp
  have HPR := Lib.hid (HW_pre p i j hpre)
  have H0 := Lib.hid h0
  have ca := F0.ca
  have cb := F0.cb
  have ci := h0.gi.c
  have cj := h0.gj.c
  have fi := h0.gi.f
  have fj := h0.gj.f
  have hne : ¬ (G = G + 1) := by omega
  clear h0 F0 hF gi gj e3 e4 p3 p4 hp hpre hp1
  go_enter Try.func38, Try.ntmps38
  go_wp2
  generalize (w.alloc (.cells #[.int .i64 0, .slice none 0 0, .slice none 0 0] 47)) = w0 at *
  go_quiet ((go_at_call 27; with_reducible exact CB.out _))
  have H1 := Lib.hid (H0.out.drewN nq)
  go_wp2
  go_region
  all_goals (
    have h5 := ((H0.out.drewN (nq + 1)).set0 (i + p)).set1 (j + p)
    rw [Int.natCast_add, Int.natCast_add] at h5
    generalize (((w0.drewN (nq + 1)).setCell ⟨G, 0, none⟩ (.int .i64 ((i : Int) + (p : Int)))).setCell ⟨G + 1, 0, none⟩ (.int .i64 ((j : Int) + (p : Int)))) = w5 at h5 ⊢
    obtain ⟨o, ho⟩ : ∃ o, o = i + p := ⟨_, rfl⟩
    obtain ⟨n, hno⟩ : ∃ n, n = j + p := ⟨_, rfl⟩
    rw [← ho, ← hno] at h5
    have HPR2 : Hid (HW la lc i j = HW la lc o n ∧ pre (la.drop o) (lc.drop n) = 0) := by rw [ho, hno]; exact HPR.out
    have hol : o ≤ la.length := by omega
    have hnl : n ≤ lc.length := by omega
    clear ho hno H0 H1 CB HPR ca cb ci cj fi fj r3 r4 hw0
    have ci := h5.gi.c
    have cj := h5.gj.c
    have H5 := Lib.hid h5
    clear h5
    go_wp2
    go_quiet (fail)
    have H6 := Lib.hid (H5.out.drewN nq)
    clear ci cj
    go_wp2
    go_loopw [] (fun wr => ∃ (x y : Nat), Hid (Open la lc o n x y) ∧ Hid (In1 w wr G x y)) (fun wr => la.length + lc.length - (cellN wr G + cellN wr (G + 1)))
    case atStart => exact ⟨o, n, Open.start hol hnl HPR2.out.2, H6.out⟩
    case round =>
      obtain ⟨x, y, hop, hin⟩ := hrel
      have xl := hop.out.il
      have yl := hop.out.jl
      have F := HF.out.below hin.out.mv.1
      have ca := F.ca
      have cb := F.cb
      have ci := hin.out.gi.c
      have cj := hin.out.gj.c
      have hwr := hin.out.lt
      obtain ⟨A3, c3, ld, e3, p3, r3⟩ := part_from A la cap x F.ra xl
      obtain ⟨A4, c4, le, e4, p4, r4⟩ := part_from A2 lc cap2 y F.rc yl
      have hl3 : ld.length ≤ 400 := by rw [e3, List.length_drop]; omega
      have hl4 : le.length ≤ 400 := by rw [e4, List.length_drop]; omega
      obtain ⟨p, hp⟩ : ∃ p, pre ld le = p := ⟨_, rfl⟩
      have CB := Lib.hid (begin_qq A3 A4 ld le c3 c4 _ p hp ((p3.strs _ _ F.sa).more (by omega)) ((p4.strs _ _ F.sc).more (by omega)) (by omega) (by omega))
      have HP : Hid (pre (la.drop x) (lc.drop y) = p) := by show _ = _; rw [← e3, ← e4]; exact hp
      clear F hp e3 e4 p3 p4
      by_cases hx : x < la.length
      · by_cases hy : y < lc.length
        · by_cases hp0 : p = 0
          · have hne2 := pre_zero (HP.out.trans hp0) hx hy
            by_cases hle : lcs (la.drop x) (lc.drop (y + 1)) ≤ lcs (la.drop (x + 1)) (lc.drop y)
            · have hop2 := Lib.hid (hop.out.goes hx (.inr ⟨hy, hne2, hle⟩))
              have q1 : decide ((x : Int) < (la.length : Int)) = true := by rw [decide_eq_true_eq]; omega
              have q2 : ((p : Int) == (0 : Int)) = true := by rw [beq_iff_eq]; omega
              have q3 : ((y : Int) == (lc.length : Int)) = false := by rw [beq_eq_false_iff_ne]; omega
              have hpz : p = 0 := hp0
              subst hpz
              go_wp2
              go_quiet ((go_at_call 27; with_reducible exact CB.out _))
              have H7 := hin.out.drewN nq
              clear ca cb ci cj r3 r4 CB HP hwr
              generalize wr.drewN nq = w7 at H7 ⊢
              have F := HF.out.below H7.mv.1
              have ca := F.ca
              have cb := F.cb
              have cm := F.cm
              have ci := H7.gi.c
              have cj := H7.gj.c
              have TA := Lib.hid (tails1_qq la lc (x + 1) y G w7 tr ta tb ((x : Int) + 1) (y : Int) (by omega) (by omega) hx yl (by omega) (by omega) F.tl)
              have TB2 := Lib.hid (tails1_qq la lc x (y + 1) G w7 tr ta tb (x : Int) ((y : Int) + 1) (by omega) (by omega) xl hy (by omega) (by omega) F.tl)
              clear F
              have hle2 := hle
              generalize lcs (la.drop x) (lc.drop (y + 1)) = z1 at *
              generalize lcs (la.drop (x + 1)) (lc.drop y) = z2 at *
              have q4 : decide ((z1 : Int) ≤ (z2 : Int)) = true := by rw [decide_eq_true_eq]; omega
              have q5 : (z1 : Int) ≤ (z2 : Int) := by omega
              go_wp2
              go_quiet ((go_at_call 37; first | with_reducible exact TA.out _ | with_reducible exact TB2.out _))
              have H8 := H7.drewN nq
              clear H7 ca cb cm ci cj
              generalize w7.drewN nq = w8 at H8 ⊢
              have ci := H8.gi.c
              have cj := H8.gj.c
              have fi := H8.gi.f
              have fj := H8.gj.f
              have H9 := H8.set0 (x + 1)
              rw [Int.natCast_add] at H9
              have HH9 := Lib.hid H9
              clear H8 H9
              go_wp2
              go_roundw
              case rel => exact ⟨x + 1, y, hop2.out, HH9.out⟩
              case measure =>
                have e1 := HH9.out.gi.n
                have e2 := HH9.out.gj.n
                have e3 := hin.out.gi.n
                have e4 := hin.out.gj.n
                simp only [Int.natCast_one] at e1 e2
                rw [e1, e2, e3, e4]
                omega
            · have hop2 := Lib.hid (hop.out.comes hy (.inr ⟨hx, hne2, hle⟩))
              have q1 : decide ((x : Int) < (la.length : Int)) = true := by rw [decide_eq_true_eq]; omega
              have q2 : ((p : Int) == (0 : Int)) = true := by rw [beq_iff_eq]; omega
              have q3 : ((y : Int) == (lc.length : Int)) = false := by rw [beq_eq_false_iff_ne]; omega
              have hpz : p = 0 := hp0
              subst hpz
              go_wp2
              go_quiet ((go_at_call 27; with_reducible exact CB.out _))
              have H7 := hin.out.drewN nq
              clear ca cb ci cj r3 r4 CB HP hwr
              generalize wr.drewN nq = w7 at H7 ⊢
              have F := HF.out.below H7.mv.1
              have ca := F.ca
              have cb := F.cb
              have cm := F.cm
              have ci := H7.gi.c
              have cj := H7.gj.c
              have TA := Lib.hid (tails1_qq la lc (x + 1) y G w7 tr ta tb ((x : Int) + 1) (y : Int) (by omega) (by omega) hx yl (by omega) (by omega) F.tl)
              have TB2 := Lib.hid (tails1_qq la lc x (y + 1) G w7 tr ta tb (x : Int) ((y : Int) + 1) (by omega) (by omega) xl hy (by omega) (by omega) F.tl)
              clear F
              have hle2 := hle
              generalize lcs (la.drop x) (lc.drop (y + 1)) = z1 at *
              generalize lcs (la.drop (x + 1)) (lc.drop y) = z2 at *
              have q4 : decide ((z1 : Int) ≤ (z2 : Int)) = false := by rw [decide_eq_false_iff_not]; omega
              have q5 : ¬ (z1 : Int) ≤ (z2 : Int) := by omega
              go_wp2
              go_quiet ((go_at_call 37; first | with_reducible exact TA.out _ | with_reducible exact TB2.out _))
              have H8 := H7.drewN nq
              clear H7 ca cb cm ci cj
              generalize w7.drewN nq = w8 at H8 ⊢
              have ci := H8.gi.c
              have cj := H8.gj.c
              have fi := H8.gi.f
              have fj := H8.gj.f
              have H9 := H8.set1 (y + 1)
              rw [Int.natCast_add] at H9
              have HH9 := Lib.hid H9
              clear H8 H9
              go_wp2
              go_roundw
              case rel => exact ⟨x, y + 1, hop2.out, HH9.out⟩
              case measure =>
                have e1 := HH9.out.gi.n
                have e2 := HH9.out.gj.n
                have e3 := hin.out.gi.n
                have e4 := hin.out.gj.n
                simp only [Int.natCast_one] at e1 e2
                rw [e1, e2, e3, e4]
                omega
          · have q1 : decide ((x : Int) < (la.length : Int)) = true := by rw [decide_eq_true_eq]; omega
            have q2 : ((p : Int) == (0 : Int)) = false := by rw [beq_eq_false_iff_ne]; omega
            go_wp2
            go_quiet ((go_at_call 27; with_reducible exact CB.out _))
            go_wp2_with fail
            have hstop := hop.out.stop (.inr (by rw [HP.out]; exact hp0))
            have hoi := hop.out.oi
            have hnj := hop.out.nj
            have H7 := hin.out.drewN nq
            clear ca cb ci cj r3 r4 CB HP hwr
            generalize wr.drewN nq = w7 at *
            clear hop hin
            have F := HF.out.below H7.mv.1
            obtain ⟨A5, c5, l5, e5, p5, r5⟩ := part_mid A la cap o x F.ra hoi xl
            obtain ⟨A6, c6, l6, e6, p6, r6⟩ := part_mid A2 lc cap2 n y F.rc hnj yl
            have h5l : l5.length ≤ 400 := by have := p5.len; omega
            have h6l : l6.length ≤ 400 := by have := p6.len; omega
            rw [← e5, ← e6] at hstop
            have ca := F.ca
            have cb := F.cb
            have ci := H7.gi.c
            have cj := H7.gj.c
            have hsz := H7.sz
            have hlt := H7.lt
            have s5 := (p5.strs _ _ F.sa).more (show G ≤ w7.heap.size by omega)
            have s6 := (p6.strs _ _ F.sc).more (show G ≤ w7.heap.size by omega)
            have hla := F.ha
            have hlb := F.hb
            have CH : Hid (∀ wx : World, wx.heap = w7.heap → Below w7.heap.size w7 wx → Calls Try.prog 25 #[.int .i64 (o : Int), .slice A5 l5.length c5, .slice A6 l6.length c6] wx fun e w' => ∃ (n0 : Int) (y1 y2 : Option Addr) (m1 m2 d1 d2 : Nat), e = .returned (.agg #[.int .i64 n0, .slice y1 m1 d1, .slice y2 m2 d2]) ∧
                (w'.cell? ⟨a, 0, none⟩ = some (.slice A la.length cap) ∧ w'.cell? ⟨G, 0, none⟩ = some (.int .i64 (x : Int)) ∧ w'.cell? ⟨b, 0, none⟩ = some (.slice A2 lc.length cap2) ∧ w'.cell? ⟨G + 1, 0, none⟩ = some (.int .i64 (y : Int))) ∧
                (w'.cell? ⟨w.heap.size, 0, none⟩ = some (.int .i64 0) ∧ w'.cell? ⟨w.heap.size, 1, none⟩ = some (.slice none 0 0) ∧ w'.cell? ⟨w.heap.size, 2, none⟩ = some (.slice none 0 0) ∧ w'.frozen? ⟨w.heap.size, 0, none⟩ = false ∧ w'.frozen? ⟨w.heap.size, 1, none⟩ = false ∧ w'.frozen? ⟨w.heap.size, 2, none⟩ = false) ∧
                Hid (∃ h : Hm, (n0 = h.at_ ∧ y1 = h.a1 ∧ m1 = h.old.length ∧ d1 = h.c1 ∧ y2 = h.a2 ∧ m2 = h.new.length ∧ d2 = h.c2) ∧ (h.at_ = (o : Int) ∧ h.old = l5 ∧ h.new = l6) ∧ h.Ok w' w'.heap.size ∧ (Typed w' h.a1 h.old ∧ Typed w' h.a2 h.new) ∧ In1 w w' G x y)) := by
              intro wx hwx hbx
              have hs2 : wx.heap.size = w7.heap.size := by rw [hwx]
              refine (hunk_any (o : Int) A5 A6 l5 l6 c5 c6 wx (s5.on hbx) (s6.on hbx) p5.room p6.room (by omega) (by omega) (by omega) (by omega)).mono ?_
              rintro e w' ⟨h, k1, k2, k3, k4, k5⟩
              rw [hs2] at k5
              have hI := H7.on (hbx.trans k5)
              refine ⟨h.at_, h.a1, h.a2, h.old.length, h.new.length, h.c1, h.c2, k1, ⟨?_, hI.gi.c, ?_, hI.gj.c⟩, ⟨hI.at_.c0, hI.at_.c1, hI.at_.c2, hI.at_.f 0, hI.at_.f 1, hI.at_.f 2⟩, h, ⟨rfl, rfl, rfl, rfl, rfl, rfl, rfl⟩, k2, k3, k4, hI⟩
              · exact (HF.out.below hI.mv.1).ca
              · exact (HF.out.below hI.mv.1).cb
            have HST := Lib.hid hstop
            have H8 := Lib.hid H7
            clear F e5 e6 p5 p6 s5 s6 hstop H7
            have q1 : (0 : Int) ≤ (o : Int) := by omega
            have q2 : (o : Int) ≤ (x : Int) := by omega
            have q3 : (0 : Int) ≤ (n : Int) := by omega
            have q4 : (n : Int) ≤ (y : Int) := by omega
            have q5 : (x : Int) ≤ (la.length : Int) := by omega
            have q6 : (y : Int) ≤ (lc.length : Int) := by omega
            by_cases hx1 : o < x
            · have d1 : decide ((o : Int) < (x : Int)) = true := by rw [decide_eq_true_eq]; omega
              go_wp2_with fail
              refine wp_region_noPanic ?_
              refine wp_region_held_drew (S := (fun w' => (w'.cell? ⟨a, 0, none⟩ = some (.slice A la.length cap) ∧ w'.cell? ⟨G, 0, none⟩ = some (.int .i64 (x : Int)) ∧ w'.cell? ⟨b, 0, none⟩ = some (.slice A2 lc.length cap2) ∧ w'.cell? ⟨G + 1, 0, none⟩ = some (.int .i64 (y : Int))))) (by kernel_rfl) ⟨ca, ci, cb, cj⟩ (fun hHeld => ?_)
              refine wpAnyH_take (i := 0) (oi := { dst := some 72, op := _, type := _, pos := _, after := _, guard := _ }) (v := .int .i64 (o : Int)) rfl (by kernel_rfl) (by kernel_rfl) (by kernel_rfl) (fun _ _ _ h => h) (Or.inl ⟨by rfl, fun w' hSw => ?_⟩) (by assumption) ?_
              · ((try dsimp only at hSw); go_simp)
              try simp only [Act.put, List.setIfInBounds_toArray, List.set_cons_zero, List.set_cons_succ]
              refine wpAnyH_take (i := 1) (oi := { dst := some 73, op := _, type := _, pos := _, after := _, guard := _ }) (v := .slice A la.length cap) rfl (by kernel_rfl) (by kernel_rfl) (by kernel_rfl) (fun _ _ _ h => h) (Or.inl ⟨by rfl, fun w' hSw => ?_⟩) (by assumption) ?_
              · ((try dsimp only at hSw); go_simp)
              try simp only [Act.put, List.setIfInBounds_toArray, List.set_cons_zero, List.set_cons_succ]
              refine wpAnyH_take (i := 2) (oi := { dst := some 74, op := _, type := _, pos := _, after := _, guard := _ }) (v := .int .i64 (o : Int)) rfl (by kernel_rfl) (by kernel_rfl) (by kernel_rfl) (fun _ _ _ h => h) (Or.inl ⟨by rfl, fun w' hSw => ?_⟩) (by assumption) ?_
              · ((try dsimp only at hSw); go_simp)
              try simp only [Act.put, List.setIfInBounds_toArray, List.set_cons_zero, List.set_cons_succ]
              refine wpAnyH_take (i := 3) (oi := { dst := some 75, op := _, type := _, pos := _, after := _, guard := _ }) (v := .int .i64 (x : Int)) rfl (by kernel_rfl) (by kernel_rfl) (by kernel_rfl) (fun _ _ _ h => h) (Or.inl ⟨by rfl, fun w' hSw => ?_⟩) (by assumption) ?_
              · ((try dsimp only at hSw); go_simp)
              try simp only [Act.put, List.setIfInBounds_toArray, List.set_cons_zero, List.set_cons_succ]
              refine wpAnyH_take (i := 5) (oi := { dst := some 77, op := _, type := _, pos := _, after := _, guard := _ }) (v := .slice A2 lc.length cap2) rfl (by kernel_rfl) (by kernel_rfl) (by kernel_rfl) (fun _ _ _ h => h) (Or.inl ⟨by rfl, fun w' hSw => ?_⟩) (by assumption) ?_
              · ((try dsimp only at hSw); go_simp)
              try simp only [Act.put, List.setIfInBounds_toArray, List.set_cons_zero, List.set_cons_succ]
              refine wpAnyH_take (i := 6) (oi := { dst := some 78, op := _, type := _, pos := _, after := _, guard := _ }) (v := .int .i64 (n : Int)) rfl (by kernel_rfl) (by kernel_rfl) (by kernel_rfl) (fun _ _ _ h => h) (Or.inl ⟨by rfl, fun w' hSw => ?_⟩) (by assumption) ?_
              · ((try dsimp only at hSw); go_simp)
              try simp only [Act.put, List.setIfInBounds_toArray, List.set_cons_zero, List.set_cons_succ]
              refine wpAnyH_take (i := 7) (oi := { dst := some 79, op := _, type := _, pos := _, after := _, guard := _ }) (v := .int .i64 (y : Int)) rfl (by kernel_rfl) (by kernel_rfl) (by kernel_rfl) (fun _ _ _ h => h) (Or.inl ⟨by rfl, fun w' hSw => ?_⟩) (by assumption) ?_
              · ((try dsimp only at hSw); go_simp)
              try simp only [Act.put, List.setIfInBounds_toArray, List.set_cons_zero, List.set_cons_succ]
              refine wpAnyH_take (i := 10) (oi := { dst := some 82, op := _, type := _, pos := _, after := _, guard := _ }) (v := .int .i64 (x : Int)) rfl (by kernel_rfl) (by kernel_rfl) (by kernel_rfl) (fun _ _ _ h => h) (Or.inl ⟨by rfl, fun w' hSw => ?_⟩) (by assumption) ?_
              · ((try dsimp only at hSw); go_simp)
              try simp only [Act.put, List.setIfInBounds_toArray, List.set_cons_zero, List.set_cons_succ]
              refine wpAnyH_take (i := 11) (oi := { dst := some 83, op := _, type := _, pos := _, after := _, guard := _ }) (v := .int .i64 (o : Int)) rfl (by kernel_rfl) (by kernel_rfl) (by kernel_rfl) (fun _ _ _ h => h) (Or.inl ⟨by rfl, fun w' hSw => ?_⟩) (by assumption) ?_
              · ((try dsimp only at hSw); go_simp)
              try simp only [Act.put, List.setIfInBounds_toArray, List.set_cons_zero, List.set_cons_succ]
              refine wpAnyH_take (i := 4) (oi := { dst := some 76, op := _, type := _, pos := _, after := _, guard := _ }) (v := .slice A5 l5.length c5) rfl (by kernel_rfl) (by kernel_rfl) (by kernel_rfl) (fun _ _ _ h => h) (Or.inl ⟨by rfl, fun w' hSw => ?_⟩) (by assumption) ?_
              · ((try dsimp only at hSw); go_simp)
              try simp only [Act.put, List.setIfInBounds_toArray, List.set_cons_zero, List.set_cons_succ]
              refine wpAnyH_take (i := 8) (oi := { dst := some 80, op := _, type := _, pos := _, after := _, guard := _ }) (v := .slice A6 l6.length c6) rfl (by kernel_rfl) (by kernel_rfl) (by kernel_rfl) (fun _ _ _ h => h) (Or.inl ⟨by rfl, fun w' hSw => ?_⟩) (by assumption) ?_
              · ((try dsimp only at hSw); go_simp)
              try simp only [Act.put, List.setIfInBounds_toArray, List.set_cons_zero, List.set_cons_succ]
              refine wpAnyH_take (i := 12) (oi := { dst := some 84, op := _, type := _, pos := _, after := _, guard := _ }) (v := .bool true) rfl (by kernel_rfl) (by kernel_rfl) (by kernel_rfl) (fun _ _ _ h => h) (Or.inl ⟨by rfl, fun w' hSw => ?_⟩) (by assumption) ?_
              · ((try dsimp only at hSw); go_simp)
              try simp only [Act.put, List.setIfInBounds_toArray, List.set_cons_zero, List.set_cons_succ]
              refine wpAnyH_ready (rs := [9]) (by kernel_rfl) (by simp) ?_
              refine AllReadyH.cons rfl (fun K hK => ?_) AllReadyH.nil
              go_simp
              go_at_call 25
              refine (CH.out _ (by rfl) (by first | exact Below.refl _ _ | exact (Below.refl _ _).drew | exact below_drewN (Below.refl _ _) _)).mono ?_
              rintro e w9 ⟨n0, y1, y2, m1, m2, d1, d2, rfl, ⟨j1, j2, j3, j4⟩, ⟨g0, g1, g2, f0, f1, f2⟩, HH⟩
              refine hK.out _ _ ⟨j1, j2, j3, j4⟩ (fun hHeld2 => ?_)
              clear hK K hHeld
              try simp only [Act.put, List.setIfInBounds_toArray, List.set_cons_zero, List.set_cons_succ]
              refine wpAnyH_take (i := 13) (oi := { dst := some 85, op := _, type := _, pos := _, after := _, guard := _ }) (v := .bool true) rfl (by kernel_rfl) (by kernel_rfl) (by kernel_rfl) (fun _ _ _ h => h) (Or.inl ⟨by rfl, fun w' hSw => ?_⟩) (by assumption) ?_
              · ((try dsimp only at hSw); go_simp)
              try simp only [Act.put, List.setIfInBounds_toArray, List.set_cons_zero, List.set_cons_succ]
              refine wpAnyH_take (i := 14) (oi := { dst := some 86, op := _, type := _, pos := _, after := _, guard := _ }) (v := undef) rfl (by kernel_rfl) (by kernel_rfl) (by kernel_rfl) (fun _ _ _ h => h) (Or.inr ⟨by rfl, rfl⟩) (by assumption) ?_
              try simp only [Act.put, List.setIfInBounds_toArray, List.set_cons_zero, List.set_cons_succ]
              refine wpAnyH_take (i := 15) (oi := { dst := some 87, op := _, type := _, pos := _, after := _, guard := _ }) (v := undef) rfl (by kernel_rfl) (by kernel_rfl) (by kernel_rfl) (fun _ _ _ h => h) (Or.inr ⟨by rfl, rfl⟩) (by assumption) ?_
              try simp only [Act.put, List.setIfInBounds_toArray, List.set_cons_zero, List.set_cons_succ]
              refine wpAnyH_take (i := 16) (oi := { dst := some 88, op := _, type := _, pos := _, after := _, guard := _ }) (v := undef) rfl (by kernel_rfl) (by kernel_rfl) (by kernel_rfl) (fun _ _ _ h => h) (Or.inr ⟨by rfl, rfl⟩) (by assumption) ?_
              try simp only [Act.put, List.setIfInBounds_toArray, List.set_cons_zero, List.set_cons_succ]
              refine wpAnyH_take (i := 17) (oi := { dst := some 89, op := _, type := _, pos := _, after := _, guard := _ }) (v := .bool true) rfl (by kernel_rfl) (by kernel_rfl) (by kernel_rfl) (fun _ _ _ h => h) (Or.inl ⟨by rfl, fun w' hSw => ?_⟩) (by assumption) ?_
              · ((try dsimp only at hSw); go_simp)
              try simp only [Act.put, List.setIfInBounds_toArray, List.set_cons_zero, List.set_cons_succ]
              refine wpAnyH_ready (rs := [18]) (by kernel_rfl) (by simp) ?_
              refine AllReadyH.cons rfl (fun K hK => ?_) AllReadyH.nil
              go_simp
              refine hK.out _ _ (ret_keep j1 j2 j3 j4 (by omega) (by omega) hsz) (fun hHeld3 => ?_)
              clear hK K hHeld2
              try simp only [Act.put, List.setIfInBounds_toArray, List.set_cons_zero, List.set_cons_succ]
              refine wpAnyH_take (i := 19) (oi := { dst := some 6, op := _, type := _, pos := _, after := _, guard := _ }) (v := .bool true) rfl (by kernel_rfl) (by kernel_rfl) (by kernel_rfl) (fun _ _ _ h => h) (Or.inl ⟨by rfl, fun w' hSw => ?_⟩) (by assumption) ?_
              · ((try dsimp only at hSw); go_simp)
              try simp only [Act.put, List.setIfInBounds_toArray, List.set_cons_zero, List.set_cons_succ]
              refine wpAnyH_done (by kernel_rfl) ?_ _
              refine NoPanic.normal ?_
              all_goals (
                obtain ⟨h, ⟨rfl, rfl, rfl, rfl, rfl, rfl, rfl⟩, ⟨t1, t2, t3⟩, t4, t5, hI⟩ := HH.out
                have hfin := hI.fin (h := h) t4 t5
                have HH2 := Lib.hid hfin
                have HT := Lib.hid (show h.at_ = (o : Int) ∧ h.old = l5 ∧ h.new = l6 from ⟨t1, t2, t3⟩)
                clear HH t1 t2 t3 t4 t5 hI hfin
                go_wp2
                (try simp only [Exit.inBlock, Exit.then])
                refine bodyPost_ret (ret_hunk2 rfl _ _ _ h (.bool true) rfl rfl HH2.out.1) rfl ?_
                exact ⟨h, true, x, y, rfl, ⟨xl, yl⟩, (fun _ => by rw [HPR2.out.1, HST.out.1 (.inl hx1), show h.plain = ⟨o, l5, l6⟩ by unfold Hm.plain; rw [HT.out.1, HT.out.2.1, HT.out.2.2, Int.toNat_natCast]]), (fun h => by cases h), (by have := HT.out.1; omega), ⟨HH2.out.2.1, HH2.out.2.2.1⟩, HH2.out.2.2.2.1, HH2.out.2.2.2.2⟩)
            · by_cases hy1 : n < y
              · have d1 : decide ((o : Int) < (x : Int)) = false := by rw [decide_eq_false_iff_not]; omega
                have d2 : decide ((n : Int) < (y : Int)) = true := by rw [decide_eq_true_eq]; omega
                go_wp2_with fail
                first | (go_region_held3 (fun w' => (w'.cell? ⟨a, 0, none⟩ = some (.slice A la.length cap) ∧ w'.cell? ⟨G, 0, none⟩ = some (.int .i64 (x : Int)) ∧ w'.cell? ⟨b, 0, none⟩ = some (.slice A2 lc.length cap2) ∧ w'.cell? ⟨G + 1, 0, none⟩ = some (.int .i64 (y : Int)))) (first | (go_keep; done) | (exact ret_keep j1 j2 j3 j4 (by omega) (by omega) hsz)) (first | (go_at_call 25; refine (CH.out _ (by rfl) (by first | exact Below.refl _ _ | exact (Below.refl _ _).drew | exact below_drewN (Below.refl _ _) _)).mono ?_; rintro e w9 ⟨n0, y1, y2, m1, m2, d1, d2, rfl, ⟨j1, j2, j3, j4⟩, ⟨g0, g1, g2, f0, f1, f2⟩, HH⟩))) | (fail "held")
                all_goals (
                  obtain ⟨h, ⟨rfl, rfl, rfl, rfl, rfl, rfl, rfl⟩, ⟨t1, t2, t3⟩, t4, t5, hI⟩ := HH.out
                  have hfin := hI.fin (h := h) t4 t5
                  have HH2 := Lib.hid hfin
                  have HT := Lib.hid (show h.at_ = (o : Int) ∧ h.old = l5 ∧ h.new = l6 from ⟨t1, t2, t3⟩)
                  clear HH t1 t2 t3 t4 t5 hI hfin
                  go_wp2
                  (try simp only [Exit.inBlock, Exit.then])
                  refine bodyPost_ret (ret_hunk2 rfl _ _ _ h (.bool true) rfl rfl HH2.out.1) rfl ?_
                  exact ⟨h, true, x, y, rfl, ⟨xl, yl⟩, (fun _ => by rw [HPR2.out.1, HST.out.1 (.inr hy1), show h.plain = ⟨o, l5, l6⟩ by unfold Hm.plain; rw [HT.out.1, HT.out.2.1, HT.out.2.2, Int.toNat_natCast]]), (fun h => by cases h), (by have := HT.out.1; omega), ⟨HH2.out.2.1, HH2.out.2.2.1⟩, HH2.out.2.2.2.1, HH2.out.2.2.2.2⟩)
              · have d1 : decide ((o : Int) < (x : Int)) = false := by rw [decide_eq_false_iff_not]; omega
                have d2 : decide ((n : Int) < (y : Int)) = false := by rw [decide_eq_false_iff_not]; omega
                go_wp2_with fail
                first | (go_region_held3 (fun w' => (w'.cell? ⟨a, 0, none⟩ = some (.slice A la.length cap) ∧ w'.cell? ⟨G, 0, none⟩ = some (.int .i64 (x : Int)) ∧ w'.cell? ⟨b, 0, none⟩ = some (.slice A2 lc.length cap2) ∧ w'.cell? ⟨G + 1, 0, none⟩ = some (.int .i64 (y : Int)))) (first | (go_keep; done) | (exact ret_keep j1 j2 j3 j4 (by omega) (by omega) hsz)) (first | (go_at_call 25; refine (CH.out _ (by rfl) (by first | exact Below.refl _ _ | exact (Below.refl _ _).drew | exact below_drewN (Below.refl _ _) _)).mono ?_; rintro e w9 ⟨n0, y1, y2, m1, m2, d1, d2, rfl, ⟨j1, j2, j3, j4⟩, ⟨g0, g1, g2, f0, f1, f2⟩, HH⟩))) | (fail "held")
                all_goals (
                  obtain ⟨h, ⟨rfl, rfl, rfl, rfl, rfl, rfl, rfl⟩, ⟨t1, t2, t3⟩, t4, t5, hI⟩ := HH.out
                  have hfin := hI.fin (h := h) t4 t5
                  have HH2 := Lib.hid hfin
                  have HT := Lib.hid (show h.at_ = (o : Int) ∧ h.old = l5 ∧ h.new = l6 from ⟨t1, t2, t3⟩)
                  clear HH t1 t2 t3 t4 t5 hI hfin
                  go_wp2
                  (try simp only [Exit.inBlock, Exit.then])
                  refine bodyPost_ret (ret_hunk2 rfl _ _ _ h (.bool false) rfl rfl HH2.out.1) rfl ?_
                  exact ⟨h, false, x, y, rfl, ⟨xl, yl⟩, (fun h => by cases h), (fun _ => by rw [HPR2.out.1]; exact HST.out.2 (fun h => h.elim hx1 hy1)), (by have := HT.out.1; omega), ⟨HH2.out.2.1, HH2.out.2.2.1⟩, HH2.out.2.2.2.1, HH2.out.2.2.2.2⟩)
        · have hp0 : p = 0 := by
            have := HP.out
            rw [List.drop_of_length_le (Nat.le_of_not_lt hy)] at this
            rw [← this]
            cases la.drop x <;> rfl
          subst hp0
          have hop2 := Lib.hid (hop.out.goes hx (.inl hy))
          have q1 : decide ((x : Int) < (la.length : Int)) = true := by rw [decide_eq_true_eq]; omega
          have q3 : ((y : Int) == (lc.length : Int)) = true := by rw [beq_iff_eq]; omega
          go_wp2
          go_quiet ((go_at_call 27; with_reducible exact CB.out _))
          have H7 := hin.out.drewN nq
          clear ca cb ci cj r3 r4 CB HP hwr
          generalize wr.drewN nq = w7 at H7 ⊢
          have F := HF.out.below H7.mv.1
          have ca := F.ca
          have cb := F.cb
          have cm := F.cm
          have ci := H7.gi.c
          have cj := H7.gj.c
          clear F
          go_wp2
          go_quiet (fail)
          have H8 := H7.drewN nq
          clear H7 ca cb cm ci cj
          generalize w7.drewN nq = w8 at H8 ⊢
          have ci := H8.gi.c
          have cj := H8.gj.c
          have fi := H8.gi.f
          have fj := H8.gj.f
          have H9 := H8.set0 (x + 1)
          rw [Int.natCast_add] at H9
          have HH9 := Lib.hid H9
          clear H8 H9
          go_wp2
          go_roundw
          case rel => exact ⟨x + 1, y, hop2.out, HH9.out⟩
          case measure =>
            have e1 := HH9.out.gi.n
            have e2 := HH9.out.gj.n
            have e3 := hin.out.gi.n
            have e4 := hin.out.gj.n
            simp only [Int.natCast_one] at e1 e2
            rw [e1, e2, e3, e4]
            omega
      · by_cases hy : y < lc.length
        · have hp0 : p = 0 := by
            have := HP.out
            rw [List.drop_of_length_le (Nat.le_of_not_lt hx)] at this
            rw [← this]
            rfl
          subst hp0
          have hop2 := Lib.hid (hop.out.comes hy (.inl hx))
          have q1 : decide ((x : Int) < (la.length : Int)) = false := by rw [decide_eq_false_iff_not]; omega
          have q2 : decide ((y : Int) < (lc.length : Int)) = true := by rw [decide_eq_true_eq]; omega
          have q3 : ((y : Int) == (lc.length : Int)) = false := by rw [beq_eq_false_iff_ne]; omega
          go_wp2
          go_quiet ((go_at_call 27; with_reducible exact CB.out _))
          have H7 := hin.out.drewN nq
          clear ca cb ci cj r3 r4 CB HP hwr
          generalize wr.drewN nq = w7 at H7 ⊢
          have F := HF.out.below H7.mv.1
          have ca := F.ca
          have cb := F.cb
          have cm := F.cm
          have ci := H7.gi.c
          have cj := H7.gj.c
          clear F
          go_wp2
          go_quiet (fail)
          have H8 := H7.drewN nq
          clear H7 ca cb cm ci cj
          generalize w7.drewN nq = w8 at H8 ⊢
          have ci := H8.gi.c
          have cj := H8.gj.c
          have fi := H8.gi.f
          have fj := H8.gj.f
          have H9 := H8.set1 (y + 1)
          rw [Int.natCast_add] at H9
          have HH9 := Lib.hid H9
          clear H8 H9
          go_wp2
          go_roundw
          case rel => exact ⟨x, y + 1, hop2.out, HH9.out⟩
          case measure =>
            have e1 := HH9.out.gi.n
            have e2 := HH9.out.gj.n
            have e3 := hin.out.gi.n
            have e4 := hin.out.gj.n
            simp only [Int.natCast_one] at e1 e2
            rw [e1, e2, e3, e4]
            omega
        · have q1 : decide ((x : Int) < (la.length : Int)) = false := by rw [decide_eq_false_iff_not]; omega
          have q2 : decide ((y : Int) < (lc.length : Int)) = false := by rw [decide_eq_false_iff_not]; omega
          go_wp2
          go_quiet ((go_at_call 27; with_reducible exact CB.out _))
          go_wp2_with fail
          have hstop := hop.out.stop (.inl ⟨hx, hy⟩)
          have hoi := hop.out.oi
          have hnj := hop.out.nj
          have H7 := hin.out.drewN nq
          clear ca cb ci cj r3 r4 CB HP hwr
          generalize wr.drewN nq = w7 at *
          clear hop hin
          have F := HF.out.below H7.mv.1
          obtain ⟨A5, c5, l5, e5, p5, r5⟩ := part_mid A la cap o x F.ra hoi xl
          obtain ⟨A6, c6, l6, e6, p6, r6⟩ := part_mid A2 lc cap2 n y F.rc hnj yl
          have h5l : l5.length ≤ 400 := by have := p5.len; omega
          have h6l : l6.length ≤ 400 := by have := p6.len; omega
          rw [← e5, ← e6] at hstop
          have ca := F.ca
          have cb := F.cb
          have ci := H7.gi.c
          have cj := H7.gj.c
          have hsz := H7.sz
          have hlt := H7.lt
          have s5 := (p5.strs _ _ F.sa).more (show G ≤ w7.heap.size by omega)
          have s6 := (p6.strs _ _ F.sc).more (show G ≤ w7.heap.size by omega)
          have hla := F.ha
          have hlb := F.hb
          have CH : Hid (∀ wx : World, wx.heap = w7.heap → Below w7.heap.size w7 wx → Calls Try.prog 25 #[.int .i64 (o : Int), .slice A5 l5.length c5, .slice A6 l6.length c6] wx fun e w' => ∃ (n0 : Int) (y1 y2 : Option Addr) (m1 m2 d1 d2 : Nat), e = .returned (.agg #[.int .i64 n0, .slice y1 m1 d1, .slice y2 m2 d2]) ∧
              (w'.cell? ⟨a, 0, none⟩ = some (.slice A la.length cap) ∧ w'.cell? ⟨G, 0, none⟩ = some (.int .i64 (x : Int)) ∧ w'.cell? ⟨b, 0, none⟩ = some (.slice A2 lc.length cap2) ∧ w'.cell? ⟨G + 1, 0, none⟩ = some (.int .i64 (y : Int))) ∧
              (w'.cell? ⟨w.heap.size, 0, none⟩ = some (.int .i64 0) ∧ w'.cell? ⟨w.heap.size, 1, none⟩ = some (.slice none 0 0) ∧ w'.cell? ⟨w.heap.size, 2, none⟩ = some (.slice none 0 0) ∧ w'.frozen? ⟨w.heap.size, 0, none⟩ = false ∧ w'.frozen? ⟨w.heap.size, 1, none⟩ = false ∧ w'.frozen? ⟨w.heap.size, 2, none⟩ = false) ∧
              Hid (∃ h : Hm, (n0 = h.at_ ∧ y1 = h.a1 ∧ m1 = h.old.length ∧ d1 = h.c1 ∧ y2 = h.a2 ∧ m2 = h.new.length ∧ d2 = h.c2) ∧ (h.at_ = (o : Int) ∧ h.old = l5 ∧ h.new = l6) ∧ h.Ok w' w'.heap.size ∧ (Typed w' h.a1 h.old ∧ Typed w' h.a2 h.new) ∧ In1 w w' G x y)) := by
            intro wx hwx hbx
            have hs2 : wx.heap.size = w7.heap.size := by rw [hwx]
            refine (hunk_any (o : Int) A5 A6 l5 l6 c5 c6 wx (s5.on hbx) (s6.on hbx) p5.room p6.room (by omega) (by omega) (by omega) (by omega)).mono ?_
            rintro e w' ⟨h, k1, k2, k3, k4, k5⟩
            rw [hs2] at k5
            have hI := H7.on (hbx.trans k5)
            refine ⟨h.at_, h.a1, h.a2, h.old.length, h.new.length, h.c1, h.c2, k1, ⟨?_, hI.gi.c, ?_, hI.gj.c⟩, ⟨hI.at_.c0, hI.at_.c1, hI.at_.c2, hI.at_.f 0, hI.at_.f 1, hI.at_.f 2⟩, h, ⟨rfl, rfl, rfl, rfl, rfl, rfl, rfl⟩, k2, k3, k4, hI⟩
            · exact (HF.out.below hI.mv.1).ca
            · exact (HF.out.below hI.mv.1).cb
          have HST := Lib.hid hstop
          have H8 := Lib.hid H7
          clear F e5 e6 p5 p6 s5 s6 hstop H7
          have q1 : (0 : Int) ≤ (o : Int) := by omega
          have q2 : (o : Int) ≤ (x : Int) := by omega
          have q3 : (0 : Int) ≤ (n : Int) := by omega
          have q4 : (n : Int) ≤ (y : Int) := by omega
          have q5 : (x : Int) ≤ (la.length : Int) := by omega
          have q6 : (y : Int) ≤ (lc.length : Int) := by omega
          by_cases hx1 : o < x
          · have d1 : decide ((o : Int) < (x : Int)) = true := by rw [decide_eq_true_eq]; omega
            go_wp2_with fail
            refine wp_region_noPanic ?_
            refine wp_region_held_drew (S := (fun w' => (w'.cell? ⟨a, 0, none⟩ = some (.slice A la.length cap) ∧ w'.cell? ⟨G, 0, none⟩ = some (.int .i64 (x : Int)) ∧ w'.cell? ⟨b, 0, none⟩ = some (.slice A2 lc.length cap2) ∧ w'.cell? ⟨G + 1, 0, none⟩ = some (.int .i64 (y : Int))))) (by kernel_rfl) ⟨ca, ci, cb, cj⟩ (fun hHeld => ?_)
            refine wpAnyH_take (i := 0) (oi := { dst := some 72, op := _, type := _, pos := _, after := _, guard := _ }) (v := .int .i64 (o : Int)) rfl (by kernel_rfl) (by kernel_rfl) (by kernel_rfl) (fun _ _ _ h => h) (Or.inl ⟨by rfl, fun w' hSw => ?_⟩) (by assumption) ?_
            · ((try dsimp only at hSw); go_simp)
            try simp only [Act.put, List.setIfInBounds_toArray, List.set_cons_zero, List.set_cons_succ]
            refine wpAnyH_take (i := 1) (oi := { dst := some 73, op := _, type := _, pos := _, after := _, guard := _ }) (v := .slice A la.length cap) rfl (by kernel_rfl) (by kernel_rfl) (by kernel_rfl) (fun _ _ _ h => h) (Or.inl ⟨by rfl, fun w' hSw => ?_⟩) (by assumption) ?_
            · ((try dsimp only at hSw); go_simp)
            try simp only [Act.put, List.setIfInBounds_toArray, List.set_cons_zero, List.set_cons_succ]
            refine wpAnyH_take (i := 2) (oi := { dst := some 74, op := _, type := _, pos := _, after := _, guard := _ }) (v := .int .i64 (o : Int)) rfl (by kernel_rfl) (by kernel_rfl) (by kernel_rfl) (fun _ _ _ h => h) (Or.inl ⟨by rfl, fun w' hSw => ?_⟩) (by assumption) ?_
            · ((try dsimp only at hSw); go_simp)
            try simp only [Act.put, List.setIfInBounds_toArray, List.set_cons_zero, List.set_cons_succ]
            refine wpAnyH_take (i := 3) (oi := { dst := some 75, op := _, type := _, pos := _, after := _, guard := _ }) (v := .int .i64 (x : Int)) rfl (by kernel_rfl) (by kernel_rfl) (by kernel_rfl) (fun _ _ _ h => h) (Or.inl ⟨by rfl, fun w' hSw => ?_⟩) (by assumption) ?_
            · ((try dsimp only at hSw); go_simp)
            try simp only [Act.put, List.setIfInBounds_toArray, List.set_cons_zero, List.set_cons_succ]
            refine wpAnyH_take (i := 5) (oi := { dst := some 77, op := _, type := _, pos := _, after := _, guard := _ }) (v := .slice A2 lc.length cap2) rfl (by kernel_rfl) (by kernel_rfl) (by kernel_rfl) (fun _ _ _ h => h) (Or.inl ⟨by rfl, fun w' hSw => ?_⟩) (by assumption) ?_
            · ((try dsimp only at hSw); go_simp)
            try simp only [Act.put, List.setIfInBounds_toArray, List.set_cons_zero, List.set_cons_succ]
            refine wpAnyH_take (i := 6) (oi := { dst := some 78, op := _, type := _, pos := _, after := _, guard := _ }) (v := .int .i64 (n : Int)) rfl (by kernel_rfl) (by kernel_rfl) (by kernel_rfl) (fun _ _ _ h => h) (Or.inl ⟨by rfl, fun w' hSw => ?_⟩) (by assumption) ?_
            · ((try dsimp only at hSw); go_simp)
            try simp only [Act.put, List.setIfInBounds_toArray, List.set_cons_zero, List.set_cons_succ]
            refine wpAnyH_take (i := 7) (oi := { dst := some 79, op := _, type := _, pos := _, after := _, guard := _ }) (v := .int .i64 (y : Int)) rfl (by kernel_rfl) (by kernel_rfl) (by kernel_rfl) (fun _ _ _ h => h) (Or.inl ⟨by rfl, fun w' hSw => ?_⟩) (by assumption) ?_
            · ((try dsimp only at hSw); go_simp)
            try simp only [Act.put, List.setIfInBounds_toArray, List.set_cons_zero, List.set_cons_succ]
            refine wpAnyH_take (i := 10) (oi := { dst := some 82, op := _, type := _, pos := _, after := _, guard := _ }) (v := .int .i64 (x : Int)) rfl (by kernel_rfl) (by kernel_rfl) (by kernel_rfl) (fun _ _ _ h => h) (Or.inl ⟨by rfl, fun w' hSw => ?_⟩) (by assumption) ?_
            · ((try dsimp only at hSw); go_simp)
            try simp only [Act.put, List.setIfInBounds_toArray, List.set_cons_zero, List.set_cons_succ]
            refine wpAnyH_take (i := 11) (oi := { dst := some 83, op := _, type := _, pos := _, after := _, guard := _ }) (v := .int .i64 (o : Int)) rfl (by kernel_rfl) (by kernel_rfl) (by kernel_rfl) (fun _ _ _ h => h) (Or.inl ⟨by rfl, fun w' hSw => ?_⟩) (by assumption) ?_
            · ((try dsimp only at hSw); go_simp)
            try simp only [Act.put, List.setIfInBounds_toArray, List.set_cons_zero, List.set_cons_succ]
            refine wpAnyH_take (i := 4) (oi := { dst := some 76, op := _, type := _, pos := _, after := _, guard := _ }) (v := .slice A5 l5.length c5) rfl (by kernel_rfl) (by kernel_rfl) (by kernel_rfl) (fun _ _ _ h => h) (Or.inl ⟨by rfl, fun w' hSw => ?_⟩) (by assumption) ?_
            · ((try dsimp only at hSw); go_simp)
            try simp only [Act.put, List.setIfInBounds_toArray, List.set_cons_zero, List.set_cons_succ]
            refine wpAnyH_take (i := 8) (oi := { dst := some 80, op := _, type := _, pos := _, after := _, guard := _ }) (v := .slice A6 l6.length c6) rfl (by kernel_rfl) (by kernel_rfl) (by kernel_rfl) (fun _ _ _ h => h) (Or.inl ⟨by rfl, fun w' hSw => ?_⟩) (by assumption) ?_
            · ((try dsimp only at hSw); go_simp)
            try simp only [Act.put, List.setIfInBounds_toArray, List.set_cons_zero, List.set_cons_succ]
            refine wpAnyH_take (i := 12) (oi := { dst := some 84, op := _, type := _, pos := _, after := _, guard := _ }) (v := .bool true) rfl (by kernel_rfl) (by kernel_rfl) (by kernel_rfl) (fun _ _ _ h => h) (Or.inl ⟨by rfl, fun w' hSw => ?_⟩) (by assumption) ?_
            · ((try dsimp only at hSw); go_simp)
            try simp only [Act.put, List.setIfInBounds_toArray, List.set_cons_zero, List.set_cons_succ]
            refine wpAnyH_ready (rs := [9]) (by kernel_rfl) (by simp) ?_
            refine AllReadyH.cons rfl (fun K hK => ?_) AllReadyH.nil
            go_simp
            go_at_call 25
            refine (CH.out _ (by rfl) (by first | exact Below.refl _ _ | exact (Below.refl _ _).drew | exact below_drewN (Below.refl _ _) _)).mono ?_
            rintro e w9 ⟨n0, y1, y2, m1, m2, d1, d2, rfl, ⟨j1, j2, j3, j4⟩, ⟨g0, g1, g2, f0, f1, f2⟩, HH⟩
            refine hK.out _ _ ⟨j1, j2, j3, j4⟩ (fun hHeld2 => ?_)
            clear hK K hHeld
            try simp only [Act.put, List.setIfInBounds_toArray, List.set_cons_zero, List.set_cons_succ]
            refine wpAnyH_take (i := 13) (oi := { dst := some 85, op := _, type := _, pos := _, after := _, guard := _ }) (v := .bool true) rfl (by kernel_rfl) (by kernel_rfl) (by kernel_rfl) (fun _ _ _ h => h) (Or.inl ⟨by rfl, fun w' hSw => ?_⟩) (by assumption) ?_
            · ((try dsimp only at hSw); go_simp)
            try simp only [Act.put, List.setIfInBounds_toArray, List.set_cons_zero, List.set_cons_succ]
            refine wpAnyH_take (i := 14) (oi := { dst := some 86, op := _, type := _, pos := _, after := _, guard := _ }) (v := undef) rfl (by kernel_rfl) (by kernel_rfl) (by kernel_rfl) (fun _ _ _ h => h) (Or.inr ⟨by rfl, rfl⟩) (by assumption) ?_
            try simp only [Act.put, List.setIfInBounds_toArray, List.set_cons_zero, List.set_cons_succ]
            refine wpAnyH_take (i := 15) (oi := { dst := some 87, op := _, type := _, pos := _, after := _, guard := _ }) (v := undef) rfl (by kernel_rfl) (by kernel_rfl) (by kernel_rfl) (fun _ _ _ h => h) (Or.inr ⟨by rfl, rfl⟩) (by assumption) ?_
            try simp only [Act.put, List.setIfInBounds_toArray, List.set_cons_zero, List.set_cons_succ]
            refine wpAnyH_take (i := 16) (oi := { dst := some 88, op := _, type := _, pos := _, after := _, guard := _ }) (v := undef) rfl (by kernel_rfl) (by kernel_rfl) (by kernel_rfl) (fun _ _ _ h => h) (Or.inr ⟨by rfl, rfl⟩) (by assumption) ?_
            try simp only [Act.put, List.setIfInBounds_toArray, List.set_cons_zero, List.set_cons_succ]
            refine wpAnyH_take (i := 17) (oi := { dst := some 89, op := _, type := _, pos := _, after := _, guard := _ }) (v := .bool true) rfl (by kernel_rfl) (by kernel_rfl) (by kernel_rfl) (fun _ _ _ h => h) (Or.inl ⟨by rfl, fun w' hSw => ?_⟩) (by assumption) ?_
            · ((try dsimp only at hSw); go_simp)
            try simp only [Act.put, List.setIfInBounds_toArray, List.set_cons_zero, List.set_cons_succ]
            refine wpAnyH_ready (rs := [18]) (by kernel_rfl) (by simp) ?_
            refine AllReadyH.cons rfl (fun K hK => ?_) AllReadyH.nil
            go_simp
            refine hK.out _ _ (ret_keep j1 j2 j3 j4 (by omega) (by omega) hsz) (fun hHeld3 => ?_)
            clear hK K hHeld2
            try simp only [Act.put, List.setIfInBounds_toArray, List.set_cons_zero, List.set_cons_succ]
            refine wpAnyH_take (i := 19) (oi := { dst := some 6, op := _, type := _, pos := _, after := _, guard := _ }) (v := .bool true) rfl (by kernel_rfl) (by kernel_rfl) (by kernel_rfl) (fun _ _ _ h => h) (Or.inl ⟨by rfl, fun w' hSw => ?_⟩) (by assumption) ?_
            · ((try dsimp only at hSw); go_simp)
            try simp only [Act.put, List.setIfInBounds_toArray, List.set_cons_zero, List.set_cons_succ]
            refine wpAnyH_done (by kernel_rfl) ?_ _
            refine NoPanic.normal ?_
            all_goals (
              obtain ⟨h, ⟨rfl, rfl, rfl, rfl, rfl, rfl, rfl⟩, ⟨t1, t2, t3⟩, t4, t5, hI⟩ := HH.out
              have hfin := hI.fin (h := h) t4 t5
              have HH2 := Lib.hid hfin
              have HT := Lib.hid (show h.at_ = (o : Int) ∧ h.old = l5 ∧ h.new = l6 from ⟨t1, t2, t3⟩)
              clear HH t1 t2 t3 t4 t5 hI hfin
              go_wp2
              (try simp only [Exit.inBlock, Exit.then])
              refine bodyPost_ret (ret_hunk2 rfl _ _ _ h (.bool true) rfl rfl HH2.out.1) rfl ?_
              exact ⟨h, true, x, y, rfl, ⟨xl, yl⟩, (fun _ => by rw [HPR2.out.1, HST.out.1 (.inl hx1), show h.plain = ⟨o, l5, l6⟩ by unfold Hm.plain; rw [HT.out.1, HT.out.2.1, HT.out.2.2, Int.toNat_natCast]]), (fun h => by cases h), (by have := HT.out.1; omega), ⟨HH2.out.2.1, HH2.out.2.2.1⟩, HH2.out.2.2.2.1, HH2.out.2.2.2.2⟩)
          · by_cases hy1 : n < y
            · have d1 : decide ((o : Int) < (x : Int)) = false := by rw [decide_eq_false_iff_not]; omega
              have d2 : decide ((n : Int) < (y : Int)) = true := by rw [decide_eq_true_eq]; omega
              go_wp2_with fail
              first | (go_region_held3 (fun w' => (w'.cell? ⟨a, 0, none⟩ = some (.slice A la.length cap) ∧ w'.cell? ⟨G, 0, none⟩ = some (.int .i64 (x : Int)) ∧ w'.cell? ⟨b, 0, none⟩ = some (.slice A2 lc.length cap2) ∧ w'.cell? ⟨G + 1, 0, none⟩ = some (.int .i64 (y : Int)))) (first | (go_keep; done) | (exact ret_keep j1 j2 j3 j4 (by omega) (by omega) hsz)) (first | (go_at_call 25; refine (CH.out _ (by rfl) (by first | exact Below.refl _ _ | exact (Below.refl _ _).drew | exact below_drewN (Below.refl _ _) _)).mono ?_; rintro e w9 ⟨n0, y1, y2, m1, m2, d1, d2, rfl, ⟨j1, j2, j3, j4⟩, ⟨g0, g1, g2, f0, f1, f2⟩, HH⟩))) | (fail "held")
              all_goals (
                obtain ⟨h, ⟨rfl, rfl, rfl, rfl, rfl, rfl, rfl⟩, ⟨t1, t2, t3⟩, t4, t5, hI⟩ := HH.out
                have hfin := hI.fin (h := h) t4 t5
                have HH2 := Lib.hid hfin
                have HT := Lib.hid (show h.at_ = (o : Int) ∧ h.old = l5 ∧ h.new = l6 from ⟨t1, t2, t3⟩)
                clear HH t1 t2 t3 t4 t5 hI hfin
                go_wp2
                (try simp only [Exit.inBlock, Exit.then])
                refine bodyPost_ret (ret_hunk2 rfl _ _ _ h (.bool true) rfl rfl HH2.out.1) rfl ?_
                exact ⟨h, true, x, y, rfl, ⟨xl, yl⟩, (fun _ => by rw [HPR2.out.1, HST.out.1 (.inr hy1), show h.plain = ⟨o, l5, l6⟩ by unfold Hm.plain; rw [HT.out.1, HT.out.2.1, HT.out.2.2, Int.toNat_natCast]]), (fun h => by cases h), (by have := HT.out.1; omega), ⟨HH2.out.2.1, HH2.out.2.2.1⟩, HH2.out.2.2.2.1, HH2.out.2.2.2.2⟩)
            · have d1 : decide ((o : Int) < (x : Int)) = false := by rw [decide_eq_false_iff_not]; omega
              have d2 : decide ((n : Int) < (y : Int)) = false := by rw [decide_eq_false_iff_not]; omega
              go_wp2_with fail
              first | (go_region_held3 (fun w' => (w'.cell? ⟨a, 0, none⟩ = some (.slice A la.length cap) ∧ w'.cell? ⟨G, 0, none⟩ = some (.int .i64 (x : Int)) ∧ w'.cell? ⟨b, 0, none⟩ = some (.slice A2 lc.length cap2) ∧ w'.cell? ⟨G + 1, 0, none⟩ = some (.int .i64 (y : Int)))) (first | (go_keep; done) | (exact ret_keep j1 j2 j3 j4 (by omega) (by omega) hsz)) (first | (go_at_call 25; refine (CH.out _ (by rfl) (by first | exact Below.refl _ _ | exact (Below.refl _ _).drew | exact below_drewN (Below.refl _ _) _)).mono ?_; rintro e w9 ⟨n0, y1, y2, m1, m2, d1, d2, rfl, ⟨j1, j2, j3, j4⟩, ⟨g0, g1, g2, f0, f1, f2⟩, HH⟩))) | (fail "held")
              all_goals (
                obtain ⟨h, ⟨rfl, rfl, rfl, rfl, rfl, rfl, rfl⟩, ⟨t1, t2, t3⟩, t4, t5, hI⟩ := HH.out
                have hfin := hI.fin (h := h) t4 t5
                have HH2 := Lib.hid hfin
                have HT := Lib.hid (show h.at_ = (o : Int) ∧ h.old = l5 ∧ h.new = l6 from ⟨t1, t2, t3⟩)
                clear HH t1 t2 t3 t4 t5 hI hfin
                go_wp2
                (try simp only [Exit.inBlock, Exit.then])
                refine bodyPost_ret (ret_hunk2 rfl _ _ _ h (.bool false) rfl rfl HH2.out.1) rfl ?_
                exact ⟨h, false, x, y, rfl, ⟨xl, yl⟩, (fun h => by cases h), (fun _ => by rw [HPR2.out.1]; exact HST.out.2 (fun h => h.elim hx1 hy1)), (by have := HT.out.1; omega), ⟨HH2.out.2.1, HH2.out.2.2.1⟩, HH2.out.2.2.2.1, HH2.out.2.2.2.2⟩))
end Go.Proofs.Ytmffmhadimeplaa
