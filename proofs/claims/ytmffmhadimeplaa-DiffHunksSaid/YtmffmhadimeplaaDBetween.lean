
/- Package diff's between: how long lists differ. -/
import Derived.Test.YtmffmhadimeplaaDBegin
import Derived.Test.YtmffmhadimeplaaDSlice
import Derived.Test.YtmffmhadimeplaaDHRow
import Derived.Test.YtmffmhadimeplaaDiffLongLaw
namespace Go.Proofs.Ytmffmhadimeplaa
open Go.RowKit
set_option linter.unusedVariables false

theorem end_qq (A A2 : Option Addr) (la lc : List (List UInt8)) (cap cap2 : Nat) (w : World) (p : Nat) (hp : suf la lc = p) (hs : Strs w w.heap.size A (toBs la)) (ht : Strs w w.heap.size A2 (toBs lc)) (hn : la.length ≤ 1000000) (hn2 : lc.length ≤ 1000000) (n : Nat) :
    Calls Try.prog 32 #[.slice A la.length cap, .slice A2 lc.length cap2] (w.drewN n) fun e w' => e = .returned (.int .i64 (p : Int)) ∧ ∃ m, w' = w.drewN m := by
  subst hp
  exact Calls.quiet_of (end_q A A2 la lc cap cap2 (w.drewN n) hs ht hn hn2)
theorem hks_one {w : World} {g : Nat} {h : Hm} (k : HunkAt w g h) (ok : h.Ok w w.heap.size) : Hks w w.heap.size (some ⟨g, 0, none⟩) [h] :=
  ⟨fun _ => ⟨g, 0, rfl, k.lt, fun j hj => by
    obtain rfl : j = 0 := by simp at hj; omega
    exact ⟨k.c0, k.c1, k.c2⟩⟩, fun x hx => by
    simp only [List.mem_singleton] at hx
    subst hx
    exact ok⟩
/-- Lists are the same just where nothing is between. -/
theorem long_eq (a b : List (List UInt8)) (p s : Nat) (hp : pre a b = p) (hs : suf (a.drop p) (b.drop p) = s) :
    (((a.drop p).take ((a.drop p).length - s)).length + ((b.drop p).take ((b.drop p).length - s)).length = 0 → longH a b = []) ∧
    (((a.drop p).take ((a.drop p).length - s)).length + ((b.drop p).take ((b.drop p).length - s)).length ≠ 0 → longH a b = [⟨p, (a.drop p).take ((a.drop p).length - s), (b.drop p).take ((b.drop p).length - s)⟩]) := by
  subst hp hs
  have hd := suf_drop (a.drop (pre a b)) (b.drop (pre a b))
  have ht := pre_take a b
  refine ⟨fun h => ?_, fun h => ?_⟩
  · have e1 : (a.drop (pre a b)).take ((a.drop (pre a b)).length - suf (a.drop (pre a b)) (b.drop (pre a b))) = [] := List.length_eq_zero_iff.1 (by omega)
    have e2 : (b.drop (pre a b)).take ((b.drop (pre a b)).length - suf (a.drop (pre a b)) (b.drop (pre a b))) = [] := List.length_eq_zero_iff.1 (by omega)
    have h1 := (List.take_append_drop ((a.drop (pre a b)).length - suf (a.drop (pre a b)) (b.drop (pre a b))) (a.drop (pre a b))).symm
    have h2 := (List.take_append_drop ((b.drop (pre a b)).length - suf (a.drop (pre a b)) (b.drop (pre a b))) (b.drop (pre a b))).symm
    rw [e1, List.nil_append] at h1
    rw [e2, List.nil_append] at h2
    have h3 : a = b := by
      have e : a.drop (pre a b) = b.drop (pre a b) := h1.trans (hd.trans h2.symm)
      calc a = a.take (pre a b) ++ a.drop (pre a b) := (List.take_append_drop _ _).symm
        _ = b.take (pre a b) ++ b.drop (pre a b) := by rw [ht, e]
        _ = b := List.take_append_drop _ _
    unfold longH
    rw [if_pos h3]
  · unfold longH
    rw [if_neg]
    rintro rfl
    apply h
    have e : ∀ l : List (List UInt8), suf l l = l.length := by
      intro l
      refine suf_spec l l l.length (Nat.le_refl _) (Nat.le_refl _) (fun _ _ _ _ => rfl) (fun h _ => absurd h (by omega))
    rw [e]
    simp

set_option maxHeartbeats 2000000 in
set_option maxRecDepth 100000 in
theorem between_any (A A2 : Option Addr) (la lc : List (List UInt8)) (cap cap2 : Nat) (w : World) (hA : Strs w w.heap.size A (toBs la)) (hC : Strs w w.heap.size A2 (toBs lc)) (hR : Room A la.length cap) (hR2 : Room A2 lc.length cap2) (hn : la.length ≤ 1000) (hn2 : lc.length ≤ 1000) :
    Calls Try.prog 22 #[.slice A la.length cap, .slice A2 lc.length cap2] w (HunksTold w (longH la lc)) := by
  obtain ⟨p, hp⟩ : ∃ p, pre la lc = p := ⟨_, rfl⟩
  obtain ⟨s, hs⟩ : ∃ s, suf (la.drop p) (lc.drop p) = s := ⟨_, rfl⟩
  have hpre := pre_le la lc
  have hsuf := suf_le (la.drop p) (lc.drop p)
  have hlong := long_eq la lc p s hp hs
  have CB := begin_q A A2 la lc cap cap2 w hA hC (by omega) (by omega)
  rw [hp] at CB hpre
  rw [hs, List.length_drop, List.length_drop] at hsuf
  obtain ⟨A3, c3, ld, e3, p3, r3⟩ := part_from A la cap p hR hpre.1
  obtain ⟨A4, c4, le, e4, p4, r4⟩ := part_from A2 lc cap2 p hR2 hpre.2
  obtain ⟨z1, hz1⟩ : ∃ z, la.length - s = z := ⟨_, rfl⟩
  obtain ⟨z2, hz2⟩ : ∃ z, lc.length - s = z := ⟨_, rfl⟩
  have hpz1 : p ≤ z1 := by omega
  have hpz2 : p ≤ z2 := by omega
  obtain ⟨A5, c5, l5, e5, p5, r5⟩ := part_mid A la cap p z1 hR hpz1 (by omega)
  obtain ⟨A6, c6, l6, e6, p6, r6⟩ := part_mid A2 lc cap2 p z2 hR2 hpz2 (by omega)
  have hl3 : ld.length ≤ 1000 := by rw [e3, List.length_drop]; omega
  have hl4 : le.length ≤ 1000 := by rw [e4, List.length_drop]; omega
  have hl5 : l5.length ≤ 1000 := by rw [e5, List.length_take, List.length_drop]; omega
  have hl6 : l6.length ≤ 1000 := by rw [e6, List.length_take, List.length_drop]; omega
  rw [← e3, ← e4] at hs
  have E5 : (la.drop p).take ((la.drop p).length - s) = l5 := by rw [e5, List.length_drop]; congr 1; omega
  have E6 : (lc.drop p).take ((lc.drop p).length - s) = l6 := by rw [e6, List.length_drop]; congr 1; omega
  rw [E5, E6] at hlong
  have CE := Lib.hid fun q => end_qq A3 A4 ld le c3 c4 (w.drewN q) s hs (p3.strs _ _ hA) (p4.strs _ _ hC) (by omega) (by omega)
  have CH := Lib.hid fun (w1 : World) (hb : Below w.heap.size w w1) => hunk_any (p : Int) A5 A6 l5 l6 c5 c6 w1 ((p5.strs _ _ hA).on hb) ((p6.strs _ _ hC).on hb) p5.room p6.room (by omega) (by omega) (by omega) (by omega)
  have HL := Lib.hid hlong
  have HCB := Lib.hid CB
  have hp1 := hpre.1
  have hp2 := hpre.2
  have hs1 := hsuf.1
  have hs2 := hsuf.2
  clear hA hC hR hR2 p3 p4 p5 p6 e3 e4 e5 e6 E5 E6 hlong CB hp hs hpre hsuf
  have i1 : (la.length : Int) - (s : Int) = (z1 : Int) := by omega
  have i2 : (lc.length : Int) - (s : Int) = (z2 : Int) := by omega
  have i3 : IntKind.i64.wrap ((la.length : Int) - (s : Int)) = (z1 : Int) := (IntWalk.i64_in _ (by omega)).trans i1
  have i4 : IntKind.i64.wrap ((lc.length : Int) - (s : Int)) = (z2 : Int) := (IntWalk.i64_in _ (by omega)).trans i2
  clear hz1 hz2
  go_enter Try.func22, Try.ntmps22
  go_wp2_with fail
  refine HCB.out.mono ?_
  rintro e w1 ⟨rfl, q, rfl⟩
  have CE1 := Lib.hid (CE.out q)
  have hb := below_drewN (Below.refl w.heap.size w) q
  clear CE HCB
  generalize w.drewN q = w1 at *
  go_wp2
  go_quiet ((go_at_call 32; with_reducible exact CE1.out _))
  have hb2 := below_drewN hb nq
  clear CE1 hb
  generalize w1.drewN nq = w2 at *
  go_wp2
  go_quiet (fail)
  have hb3 := below_drewN hb2 nq
  clear hb2
  generalize w2.drewN nq = w3 at *
  by_cases hz : l5.length + l6.length = 0
  · have h1 : l5.length = 0 := by omega
    have h2 : l6.length = 0 := by omega
    have hfin := Lib.hid (HL.out.1 hz)
    clear HL CH hz
    go_wp2
    go_ret
    rw [hfin.out]
    exact ⟨none, 0, [], rfl, ⟨rfl, fun h hh => by cases hh⟩, ⟨fun _ => rfl, Nat.le_refl _⟩, Hks.nil, hb3⟩
  · have hfin := Lib.hid (HL.out.2 hz)
    have q1 : ((l5.length : Int) + (l6.length : Int) == 0) = false := by rw [beq_eq_false_iff_ne]; omega
    have HC := Lib.hid (CH.out w3 hb3)
    have HB3 := Lib.hid hb3
    clear HL CH hz hb3
    go_wp2_with fail
    refine HC.out.mono ?_
    rintro e w4 ⟨y, he, ⟨y1, y2, y3⟩, oky, tyy, hb4⟩
    have he' : e = .returned (.agg #[.int .i64 y.at_, .slice y.a1 y.old.length y.c1, .slice y.a2 y.new.length y.c2]) := he
    subst he'
    have hal : Below w4.heap.size w4 (w4.alloc (.cells #[.int .i64 y.at_, .slice y.a1 y.old.length y.c1, .slice y.a2 y.new.length y.c2] 47)) := (Below.refl _ _).alloc (Nat.le_refl _) _
    have N3 : Hid (HunkAt (w4.alloc (.cells #[.int .i64 y.at_, .slice y.a1 y.old.length y.c1, .slice y.a2 y.new.length y.c2] 47)) w4.heap.size y) := HunkAt.new_ w4 y
    have OK := Lib.hid (oky.on hal)
    have hb5 := HB3.out.trans (hb4.mono HB3.out.size)
    have HB6 := Lib.hid (hb5.trans (hal.mono hb5.size))
    have HY : Hid (y.at_ = (p : Int) ∧ y.old = l5 ∧ y.new = l6) := ⟨y1, y2, y3⟩
    clear he hb4 hal oky tyy hb5 y1 y2 y3 HC HB3
    go_wp2
    go_ret
    have hpl : y.plain = ⟨p, l5, l6⟩ := by unfold Hm.plain; rw [HY.out.1, HY.out.2.1, HY.out.2.2, Int.toNat_natCast]
    refine ⟨_, 1, [y], rfl, ⟨by rw [hfin.out, ← hpl]; rfl, fun h hh => ?_⟩, ⟨(fun h => by cases h), Nat.le_refl _⟩, hks_one N3.out OK.out, HB6.out⟩
    simp only [List.mem_singleton] at hh
    subst hh
    rw [HY.out.1]
    omega
end Go.Proofs.Ytmffmhadimeplaa
