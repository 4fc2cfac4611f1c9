/- Package commute's at, onward, grown, ofOneFile, touched. slices.Contains of strings. Package commute's clearOf and its closures, apart. -/
import Derived.BigQuiet
import Derived.Deep.QuietTactic
import Derived.Handy
import Derived.WalkKit
import Derived.Test.YtalabahjfmcnbaaGreatDoorShelf
import Derived.Laws.EntriesVeiled
import Derived.Test.YtalabahjfmcnbaaGreatDoorCk09
namespace Go.Proofs.YtalabahjfmcnbaaGreatDoor
open Go.RowKit
set_option linter.unusedVariables false

set_option maxHeartbeats 8000000 in
set_option maxRecDepth 100000 in
theorem cat_any (f : ByteArray) (x : Pm) (w : World) (ok : x.Ok w w.heap.size) (m1 : x.old.length ≤ 1000000) (m2 : x.new.length ≤ 1000000) (hf : f.size ≤ 9223372036854775807) :
    Calls Tryz.prog 115 #[.string f, x.val] w (PrimLeft w ⟨x.kind, f.data.toList, x.dst.data.toList, x.at_, x.old, x.new⟩) := by
  obtain ⟨kind, p, q, at_, a1, c1, old, a2, c2, new⟩ := x
  unfold Pm.val
  simp only [] at m1 m2 ⊢
  obtain ⟨hal, hx, hp⟩ := boxes w ⟨kind, f, q, at_, a1, c1, old, a2, c2, new⟩
  have e0 : ((w.alloc (.cells (Pm.cells ⟨kind, f, q, at_, a1, c1, old, a2, c2, new⟩).toArray 33)).alloc (.cells (Pm.cells ⟨0, ⟨#[]⟩, ⟨#[]⟩, 0, none, 0, [], none, 0, []⟩).toArray 33)) = ((w.alloc (.cells #[.int .i64 kind, .string f, .string q, .int .i64 at_, .slice a1 old.length c1, .slice a2 new.length c2] 33)).alloc (.cells #[.int .i64 0, .string ⟨#[]⟩, .string ⟨#[]⟩, .int .i64 0, .slice none 0 0, .slice none 0 0] 33)) := rfl
  rw [e0] at hal hx hp
  have HB := Lib.hid hal
  have HP := Lib.hid hp
  have C := Lib.hid (ccopied_any ⟨kind, f, q, at_, a1, c1, old, a2, c2, new⟩ _ ⟨(ok.on hal).h, hf, ok.q, ok.lo, ok.hi⟩ m1 m2)
  clear hal hx hp ok e0
  go_enter Tryz.func115, Tryz.ntmps115
  go_wp2_with fail
  refine C.out.mono ?_
  rintro e w2 ⟨y, rfl, hy, hb2⟩
  have HY := Lib.hid hy.out
  have hP2 := HP.out.on hb2
  have y0 := hP2.c0
  have y1 := hP2.c1
  have y2 := hP2.c2
  have y3 := hP2.c3
  have y4 := hP2.c4
  have y5 := hP2.c5
  have u0 := hP2.fz 0
  have u1 := hP2.fz 1
  have u2 := hP2.fz 2
  have u3 := hP2.fz 3
  have u4 := hP2.fz 4
  have u5 := hP2.fz 5
  have HF := Lib.hid (prim_set (w := w) (HB.out.trans (hb2.mono HB.out.size)) (Nat.le_succ _) hP2 hy.out.1 hy.out.2)
  have HPS := Lib.hid (setPrim_at hP2 y)
  clear hb2 hy hP2 C
  go_wp2
  (try simp only [Exit.inBlock, Exit.then])
  refine bodyPost_ret (ret_prim rfl _ _ _ _ rfl HPS.out) rfl ?_
  exact HF.out
set_option maxHeartbeats 8000000 in
set_option maxRecDepth 100000 in
theorem conward_any (b t : Int) (x : Pm) (w : World) (ok : x.Ok w w.heap.size) (m1 : x.old.length ≤ 1000000) (m2 : x.new.length ≤ 1000000) (ht : wrap64 (x.at_ + b) = t) :
    Calls Tryz.prog 147 #[.int .i64 b, x.val] w (PrimLeft w ⟨x.kind, x.p.data.toList, x.dst.data.toList, t, x.old, x.new⟩) := by
  obtain ⟨kind, p, q, at_, a1, c1, old, a2, c2, new⟩ := x
  unfold Pm.val
  simp only [] at m1 m2 ht ⊢
  obtain ⟨hal, hx, hp⟩ := boxes w ⟨kind, p, q, t, a1, c1, old, a2, c2, new⟩
  have e0 : ((w.alloc (.cells (Pm.cells ⟨kind, p, q, t, a1, c1, old, a2, c2, new⟩).toArray 33)).alloc (.cells (Pm.cells ⟨0, ⟨#[]⟩, ⟨#[]⟩, 0, none, 0, [], none, 0, []⟩).toArray 33)) = ((w.alloc (.cells #[.int .i64 kind, .string p, .string q, .int .i64 t, .slice a1 old.length c1, .slice a2 new.length c2] 33)).alloc (.cells #[.int .i64 0, .string ⟨#[]⟩, .string ⟨#[]⟩, .int .i64 0, .slice none 0 0, .slice none 0 0] 33)) := rfl
  rw [e0] at hal hx hp
  have HB := Lib.hid hal
  have HP := Lib.hid hp
  have hr := wrap_lo (at_ + b)
  rw [ht] at hr
  have C := Lib.hid (ccopied_any ⟨kind, p, q, t, a1, c1, old, a2, c2, new⟩ _ (by
    have o := ok.on hal
    exact ⟨⟨o.h.old, o.h.new, o.h.r1, o.h.r2, hr.1, hr.2, o.h.n1, o.h.n2⟩, o.p, o.q, o.lo, o.hi⟩) m1 m2)
  clear hr
  clear hal hx hp ok e0
  go_enter Tryz.func147, Tryz.ntmps147
  go_wp2_with fail
  refine C.out.mono ?_
  rintro e w2 ⟨y, rfl, hy, hb2⟩
  have hP2 := HP.out.on hb2
  have y0 := hP2.c0
  have y1 := hP2.c1
  have y2 := hP2.c2
  have y3 := hP2.c3
  have y4 := hP2.c4
  have y5 := hP2.c5
  have u0 := hP2.fz 0
  have u1 := hP2.fz 1
  have u2 := hP2.fz 2
  have u3 := hP2.fz 3
  have u4 := hP2.fz 4
  have u5 := hP2.fz 5
  have HF := Lib.hid (prim_set (w := w) (HB.out.trans (hb2.mono HB.out.size)) (Nat.le_succ _) hP2 hy.out.1 hy.out.2)
  have HPS := Lib.hid (setPrim_at hP2 y)
  clear hb2 hy hP2 C
  go_wp2
  (try simp only [Exit.inBlock, Exit.then])
  refine bodyPost_ret (ret_prim rfl _ _ _ _ rfl HPS.out) rfl ?_
  exact HF.out
set_option maxHeartbeats 2000000 in
set_option maxRecDepth 100000 in
theorem cgrown_any (x : Pm) (w : World) (m1 : x.old.length ≤ 1000000) (m2 : x.new.length ≤ 1000000) (t : Int) (ht : (x.new.length : Int) - x.old.length = t) :
    Calls Tryz.prog 148 #[x.val] w fun e w' => e = .returned (.int .i64 t) ∧ Below w.heap.size w w' := by
  obtain ⟨kind, p, q, at_, a1, c1, old, a2, c2, new⟩ := x
  unfold Pm.val
  simp only [] at m1 m2 ht ⊢
  obtain ⟨hal, hx⟩ := box1 w ⟨kind, p, q, at_, a1, c1, old, a2, c2, new⟩
  have b4 : (w.alloc (.cells #[.int .i64 kind, .string p, .string q, .int .i64 at_, .slice a1 old.length c1, .slice a2 new.length c2] 33)).cell? ⟨w.heap.size, 4, none⟩ = some (.slice a1 old.length c1) := hx.c4
  have b5 : (w.alloc (.cells #[.int .i64 kind, .string p, .string q, .int .i64 at_, .slice a1 old.length c1, .slice a2 new.length c2] 33)).cell? ⟨w.heap.size, 5, none⟩ = some (.slice a2 new.length c2) := hx.c5
  have HA := Lib.hid hal
  clear hal hx
  go_enter Tryz.func148, Tryz.ntmps148
  go_wp2
  go_ret
  subst ht
  exact ⟨rfl, HA.out⟩
set_option maxHeartbeats 8000000 in
set_option maxRecDepth 100000 in
theorem cone_any (x y : Pm) (w : World) (r : Bool) (hr : decide (x.kind = 6 ∧ y.kind = 6 ∧ x.p = y.p) = r) :
    Calls Tryz.prog 113 #[x.val, y.val] w fun e w' => e = .returned (.bool r) ∧ Below w.heap.size w w' := by
  obtain ⟨kind, p, q, at_, a1, c1, old, a2, c2, new⟩ := x
  obtain ⟨kind2, p2, q2, at2, a3, c3, old2, a4, c4, new2⟩ := y
  unfold Pm.val
  simp only [] at hr ⊢
  obtain ⟨hal, hx, hy⟩ := box2 w ⟨kind, p, q, at_, a1, c1, old, a2, c2, new⟩ ⟨kind2, p2, q2, at2, a3, c3, old2, a4, c4, new2⟩
  have e0 : ((w.alloc (.cells (Pm.cells ⟨kind, p, q, at_, a1, c1, old, a2, c2, new⟩).toArray 33)).alloc (.cells (Pm.cells ⟨kind2, p2, q2, at2, a3, c3, old2, a4, c4, new2⟩).toArray 33)) = ((w.alloc (.cells #[.int .i64 kind, .string p, .string q, .int .i64 at_, .slice a1 old.length c1, .slice a2 new.length c2] 33)).alloc (.cells #[.int .i64 kind2, .string p2, .string q2, .int .i64 at2, .slice a3 old2.length c3, .slice a4 new2.length c4] 33)) := rfl
  rw [e0] at hal hx hy
  have b0 := hx.c0
  have b1 := hx.c1
  have d0 := hy.c0
  have d1 := hy.c1
  have HA := Lib.hid hal
  have HR := Lib.hid hr
  clear hal hx hy e0 hr
  by_cases h1 : kind = 6
  · have k1 : (kind == 6) = true := by simpa using h1
    by_cases h2 : kind2 = 6
    · have k2 : (kind2 == 6) = true := by simpa using h2
      have k3 : (p.toList == p2.toList) = r := by rw [str_beq, ← HR.out]; simp [h1, h2]
      clear h1 h2
      go_enter Tryz.func113, Tryz.ntmps113
      cases r <;> go_wp2 <;> go_ret <;> exact ⟨rfl, HA.out⟩
    · have k2 : (kind2 == 6) = false := by simpa using h2
      have hf : r = false := by rw [← HR.out]; simp [h2]
      subst hf
      clear h1 h2
      go_enter Tryz.func113, Tryz.ntmps113
      go_wp2
      go_ret
      exact ⟨rfl, HA.out⟩
  · have k1 : (kind == 6) = false := by simpa using h1
    have hf : r = false := by rw [← HR.out]; simp [h1]
    subst hf
    clear h1
    go_enter Tryz.func113, Tryz.ntmps113
    go_wp2
    go_ret
    exact ⟨rfl, HA.out⟩
set_option maxHeartbeats 2000000 in
set_option maxRecDepth 100000 in
theorem ctouched_any (x : Pm) (w : World) : Calls Tryz.prog 65 #[x.val] w (RowLeft w (touches x.key)) := by
  obtain ⟨kind, p, q, at_, a1, c1, old, a2, c2, new⟩ := x
  unfold Pm.val
  obtain ⟨hal, hx⟩ := box1 w ⟨kind, p, q, at_, a1, c1, old, a2, c2, new⟩
  have e0 : (w.alloc (.cells (Pm.cells ⟨kind, p, q, at_, a1, c1, old, a2, c2, new⟩).toArray 33)) = (w.alloc (.cells #[.int .i64 kind, .string p, .string q, .int .i64 at_, .slice a1 old.length c1, .slice a2 new.length c2] 33)) := rfl
  rw [e0] at hal hx
  have b0 := hx.c0
  have b1 := hx.c1
  have b2 := hx.c2
  have HA := Lib.hid hal
  have HZ : Hid ((w.alloc (.cells #[.int .i64 kind, .string p, .string q, .int .i64 at_, .slice a1 old.length c1, .slice a2 new.length c2] 33)).heap.size = w.heap.size + 1) := World.size_alloc _ _
  clear hal hx e0
  by_cases h5 : kind = 5
  · have k5 : (kind == 5) = true := by simpa using h5
    have ht : touches (Pm.key ⟨kind, p, q, at_, a1, c1, old, a2, c2, new⟩) = [p.data.toList, q.data.toList] := by unfold touches; rw [if_pos (show (Pm.key ⟨kind, p, q, at_, a1, c1, old, a2, c2, new⟩).kind = 5 from h5)]; rfl
    rw [ht]
    clear h5 ht
    go_enter Tryz.func65, Tryz.ntmps65
    go_wp2
    go_ret
    generalize (w.alloc (.cells #[.int .i64 kind, .string p, .string q, .int .i64 at_, .slice a1 old.length c1, .slice a2 new.length c2] 33)) = wa at *
    refine ⟨some ⟨w.heap.size + 1, 0, none⟩, 2, rfl, (fun e => by cases e), ?_, HA.out.alloc HA.out.size _⟩
    rw [← HZ.out]
    have := strs_two wa p q
    simpa [toBs, toB_of] using this
  · have k5 : (kind == 5) = false := by simpa using h5
    have ht : touches (Pm.key ⟨kind, p, q, at_, a1, c1, old, a2, c2, new⟩) = [p.data.toList] := by unfold touches; rw [if_neg (show ¬ (Pm.key ⟨kind, p, q, at_, a1, c1, old, a2, c2, new⟩).kind = 5 from h5)]; rfl
    rw [ht]
    clear h5 ht
    go_enter Tryz.func65, Tryz.ntmps65
    go_wp2
    go_ret
    generalize (w.alloc (.cells #[.int .i64 kind, .string p, .string q, .int .i64 at_, .slice a1 old.length c1, .slice a2 new.length c2] 33)) = wa at *
    refine ⟨some ⟨w.heap.size + 1, 0, none⟩, 1, rfl, (fun e => by cases e), ?_, HA.out.alloc HA.out.size _⟩
    rw [← HZ.out]
    have := strs_one wa p
    simpa [toBs, toB_of] using this
end Go.Proofs.YtalabahjfmcnbaaGreatDoor
namespace Go.Proofs.YtalabahjfmcnbaaGreatDoor
open Go.RowKit
set_option linter.unusedVariables false

theorem contains_eq (ss : List ByteArray) (s : ByteArray) : Lib.containsS ss s = decide (s.data.toList ∈ lists ss) := by
  rw [Bool.eq_iff_iff, Lib.containsS_iff, decide_eq_true_eq, lists, List.mem_map]
  constructor
  · exact fun h => ⟨s, h, rfl⟩
  · rintro ⟨t, ht, e⟩
    rw [← bytes_inj e]
    exact ht

theorem contains_any (A : Option Addr) (ss : List ByteArray) (cap : Nat) (s : ByteArray) (w : World) (hs : Strs w w.heap.size A ss) (hn : ss.length ≤ 1000000) :
    Calls Tryz.prog 166 #[.slice A ss.length cap, .string s] w fun e w' => e = .returned (.bool (decide (s.data.toList ∈ lists ss))) ∧ w' = w := by
  by_cases h0 : 0 < ss.length
  · obtain ⟨b, off, rfl, hb, hc⟩ := hs h0
    have h := Tryz.slices_Contains_string b off ss.length cap ss s w (Nat.le_refl _) (by omega) (fun j hj => by rw [hc j hj]; simp [List.getD_eq_getElem?_getD, List.getElem?_eq_getElem hj])
    rw [List.take_of_length_le (Nat.le_refl _), contains_eq] at h
    exact h
  · obtain rfl : ss = [] := List.length_eq_zero_iff.1 (by omega)
    have h := Tryz.slices_Contains_string_empty A cap s w
    simpa [lists] using h
end Go.Proofs.YtalabahjfmcnbaaGreatDoor
namespace Go.Proofs.YtalabahjfmcnbaaGreatDoor
open Go.RowKit
set_option linter.unusedVariables false

/-- What meets knows: where it lies. -/
structure MeetAt (w : World) (B1 B2 B3 : Nat) (own : List (List UInt8)) (d : Bool) (p : ByteArray) : Prop where
  own : ∃ A c, w.cell? ⟨B1, 0, none⟩ = some (.slice A own.length c) ∧ Strs w w.heap.size A (toBs own)
  dir : w.cell? ⟨B2, 0, none⟩ = some (.bool d)
  path : w.cell? ⟨B3, 1, none⟩ = some (.string p)
theorem MeetAt.on {w w' : World} {B1 B2 B3 : Nat} {own : List (List UInt8)} {d : Bool} {p : ByteArray} (h : MeetAt w B1 B2 B3 own d p) (hb : Below w.heap.size w w') : MeetAt w' B1 B2 B3 own d p := by
  obtain ⟨⟨A, c, h1, h2⟩, h3, h4⟩ := h
  exact ⟨⟨A, c, cell_on h1 hb, h2.on hb⟩, cell_on h3 hb, cell_on h4 hb⟩
def meetB (own : List (List UInt8)) (d : Bool) (p : ByteArray) (o : List UInt8) : Bool := decide (o ∈ own) || (d && withinP nameP o p.data.toList)
set_option maxHeartbeats 2000000 in
set_option maxRecDepth 100000 in
theorem meets_any (B1 B2 B3 : Nat) (own : List (List UInt8)) (d : Bool) (p o : ByteArray) (w : World) (h : MeetAt w B1 B2 B3 own d p) (hn : own.length ≤ 1000000) (hp : p.size ≤ 1000000) (ho : o.size ≤ 1000000) :
    Calls Tryz.prog 165 #[.string o, .pointer (some ⟨B1, 0, none⟩), .pointer (some ⟨B2, 0, none⟩), .pointer (some ⟨B3, 0, none⟩)] w fun e w' => e = .returned (.bool (meetB own d p o.data.toList)) ∧ Below w.heap.size w w' := by
  obtain ⟨⟨A, c, h1, h2⟩, h3, h4⟩ := h
  have CC := contains_any A (toBs own) c o w h2 (by rw [toBs_len]; exact hn)
  rw [toBs_len, lists_toBs] at CC
  have CW := Lib.hid (pwithin_any o p w ho hp)
  unfold meetB
  generalize decide (o.data.toList ∈ own) = a at *
  generalize withinP nameP o.data.toList p.data.toList = b at *
  have CC := Lib.hid CC
  generalize own.length = m at *
  clear h2 hn hp ho
  cases a
  · cases d
    · go_enter Tryz.func165, Tryz.ntmps165
      go_wp2_with fail
      refine CC.out.mono ?_
      rintro e w1 ⟨rfl, rfl⟩
      go_wp2
      go_ret
      exact ⟨rfl, Below.refl _ _⟩
    · go_enter Tryz.func165, Tryz.ntmps165
      go_wp2_with fail
      refine CC.out.mono ?_
      rintro e w1 ⟨rfl, rfl⟩
      go_wp2_with fail
      refine CW.out.mono ?_
      rintro e w2 ⟨rfl, hb⟩
      have HB := Lib.hid hb
      clear hb
      go_wp2
      go_ret
      exact ⟨rfl, HB.out⟩
  · go_enter Tryz.func165, Tryz.ntmps165
    go_wp2_with fail
    refine CC.out.mono ?_
    rintro e w1 ⟨rfl, rfl⟩
    go_wp2
    go_ret
    exact ⟨rfl, Below.refl _ _⟩
theorem any_no {f : List UInt8 → Bool} {ls : List (List UInt8)} (h : ∀ j (hj : j < ls.length), f ls[j] = false) : ls.any f = false := by
  rw [List.any_eq_false]
  intro x hx
  obtain ⟨j, hj, rfl⟩ := List.getElem_of_mem hx
  simp [h j hj]
set_option maxHeartbeats 2000000 in
set_option maxRecDepth 100000 in
theorem indexmeet_any (B1 B2 B3 : Nat) (own : List (List UInt8)) (d : Bool) (p : ByteArray) (A : Option Addr) (ls : List (List UInt8)) (cap : Nat) (w : World) (h : MeetAt w B1 B2 B3 own d p) (hn : own.length ≤ 1000000) (hp : p.size ≤ 1000000) (hs : Strs w w.heap.size A (toBs ls)) (hl : ls.length ≤ 1000000) (hz : ∀ x ∈ ls, x.length ≤ 1000000) :
    Calls Tryz.prog 173 #[.slice A ls.length cap, .func (.func 165) #[] #[.pointer (some ⟨B1, 0, none⟩), .pointer (some ⟨B2, 0, none⟩), .pointer (some ⟨B3, 0, none⟩)]] w fun e w' => ∃ r : Int, e = .returned (.int .i64 r) ∧ decide (0 ≤ r) = ls.any (meetB own d p) ∧ Below w.heap.size w w' := by
  have HM := Lib.hid h
  have HS := Lib.hid hs
  have HZ := Lib.hid hz
  clear h hs hz
  go_enter Tryz.func173, Tryz.ntmps173
  go_wp2
  go_loopw [8] (fun i wr => ∃ k : Nat, k ≤ ls.length ∧ i = .int .i64 (k : Int) ∧ Hid (∀ j (hj : j < ls.length), j < k → meetB own d p ls[j] = false) ∧ Below w.heap.size w wr) (fun i _ => ls.length - (intOf i).toNat)
  case atStart => exact ⟨0, Nat.zero_le _, rfl, fun j _ h => absurd h (by omega), Below.refl _ _⟩
  case round =>
    obtain ⟨k, hk, rfl, hall, hb⟩ := hrel
    by_cases hlt : k < ls.length
    · obtain ⟨g, off, rfl, hg, hc⟩ := (HS.out.on hb).at_ (k := k) (by rw [toBs_len]; exact hlt)
      have e1 : (toBs ls)[k]'(by rw [toBs_len]; exact hlt) = toB ls[k] := by simp [toBs]
      rw [e1] at hc
      have hz : (toB ls[k]).size ≤ 1000000 := by
        rw [toB_size]
        exact HZ.out ls[k] (List.getElem_mem _)
      have C := Lib.hid (meets_any B1 B2 B3 own d p (toB ls[k]) wr (HM.out.on hb) hn hp hz)
      rw [of_toB] at C
      cases hd : meetB own d p ls[k] with
      | true =>
        have hfin : Hid (ls.any (meetB own d p) = true) := List.any_eq_true.2 ⟨ls[k], List.getElem_mem _, hd⟩
        rw [hd] at C
        have HB := Lib.hid hb
        clear hall hd e1 hz hb
        generalize toB ls[k] = z at *
        go_wp2_with fail
        refine C.out.mono ?_
        rintro e w1 ⟨rfl, hb1⟩
        have HB2 := Lib.hid (HB.out.trans (hb1.mono HB.out.size))
        clear hb1
        go_wp2
        go_ret
        exact ⟨k, rfl, by rw [hfin.out]; simp, HB2.out⟩
      | false =>
        have hyes : Hid (∀ j (hj : j < ls.length), j < k + 1 → meetB own d p ls[j] = false) := by
          intro j hj hjk
          by_cases hjk2 : j = k
          · subst hjk2; exact hd
          · exact hall.out j hj (by omega)
        rw [hd] at C
        have HB := Lib.hid hb
        clear hall hd e1 hz hb
        generalize toB ls[k] = z at *
        go_wp2_with fail
        refine C.out.mono ?_
        rintro e w1 ⟨rfl, hb1⟩
        have HB2 := Lib.hid (HB.out.trans (hb1.mono HB.out.size))
        clear hb1
        go_wp2
        go_roundw
        case rel => exact ⟨k + 1, by omega, by go_num, hyes, HB2.out⟩
        case measure => simp [intOf]; omega
    · obtain rfl : k = ls.length := by omega
      have hfin : Hid (ls.any (meetB own d p) = false) := any_no fun j hj => hall.out j hj hj
      clear hall
      go_wp2
      go_ret
      exact ⟨-1, rfl, by rw [hfin.out]; rfl, hb⟩
theorem hasmeet_any (B1 B2 B3 : Nat) (own : List (List UInt8)) (d : Bool) (p : ByteArray) (A : Option Addr) (ls : List (List UInt8)) (cap : Nat) (w : World) (h : MeetAt w B1 B2 B3 own d p) (hn : own.length ≤ 1000000) (hp : p.size ≤ 1000000) (hs : Strs w w.heap.size A (toBs ls)) (hl : ls.length ≤ 1000000) (hz : ∀ x ∈ ls, x.length ≤ 1000000) :
    Calls Tryz.prog 154 #[.slice A ls.length cap, .func (.func 165) #[] #[.pointer (some ⟨B1, 0, none⟩), .pointer (some ⟨B2, 0, none⟩), .pointer (some ⟨B3, 0, none⟩)]] w fun e w' => e = .returned (.bool (ls.any (meetB own d p))) ∧ Below w.heap.size w w' := by
  have C := Lib.hid (indexmeet_any B1 B2 B3 own d p A ls cap w h hn hp hs hl hz)
  clear h hs hz
  go_enter Tryz.func154, Tryz.ntmps154
  go_wp2_with fail
  refine C.out.mono ?_
  rintro e w1 ⟨r, rfl, hr, hb⟩
  have HR := Lib.hid hr
  clear hr C
  go_wp2
  go_ret
  rw [← HR.out]
  exact ⟨rfl, hb⟩
/-- What clearOf's answer knows. -/
def ClearAt (w : World) (B5 : Nat) (own : List (List UInt8)) (d : Bool) (p : ByteArray) : Prop := ∃ B1 B2 B3, w.cell? ⟨B5, 0, none⟩ = some (.func (.func 165) #[] #[.pointer (some ⟨B1, 0, none⟩), .pointer (some ⟨B2, 0, none⟩), .pointer (some ⟨B3, 0, none⟩)]) ∧ MeetAt w B1 B2 B3 own d p
theorem ClearAt.on {w w' : World} {B5 : Nat} {own : List (List UInt8)} {d : Bool} {p : ByteArray} (h : ClearAt w B5 own d p) (hb : Below w.heap.size w w') : ClearAt w' B5 own d p := by
  obtain ⟨B1, B2, B3, h1, h2⟩ := h
  exact ⟨B1, B2, B3, cell_on h1 hb, h2.on hb⟩
set_option maxRecDepth 100000 in
theorem clear_any (B5 : Nat) (own : List (List UInt8)) (d : Bool) (p : ByteArray) (A : Option Addr) (ls : List (List UInt8)) (cap : Nat) (w : World) (h : ClearAt w B5 own d p) (hn : own.length ≤ 1000000) (hp : p.size ≤ 1000000) (hs : Strs w w.heap.size A (toBs ls)) (hl : ls.length ≤ 1000000) (hz : ∀ x ∈ ls, x.length ≤ 1000000) :
    Calls Tryz.prog 168 #[.slice A ls.length cap, .pointer (some ⟨B5, 0, none⟩)] w fun e w' => e = .returned (.bool (!(ls.any (meetB own d p)))) ∧ Below w.heap.size w w' := by
  obtain ⟨B1, B2, B3, h1, h2⟩ := h
  have C := Lib.hid (hasmeet_any B1 B2 B3 own d p A ls cap w h2 hn hp hs hl hz)
  generalize ls.any (meetB own d p) = r at *
  clear h2 hs hz
  go_enter Tryz.func168, Tryz.ntmps168
  go_wp2_with fail
  refine C.out.mono ?_
  rintro e w1 ⟨rfl, hb⟩
  have HB := Lib.hid hb
  clear hb C
  go_wp2
  go_ret
  exact ⟨rfl, HB.out⟩
def dirB (k : Int) : Bool := decide (k = 1 ∨ k = 2)
theorem clear_made (w1 : World) (G : Nat) (own : List (List UInt8)) (A : Option Addr) (c : Nat) (d : Bool) (p : ByteArray) (hs : Strs w1 w1.heap.size A (toBs own)) (hp : w1.cell? ⟨G, 1, none⟩ = some (.string p)) :
    ClearAt (((w1.alloc (.cells #[.slice A own.length c] 31)).alloc (.cells #[.bool d] 4)).alloc (.cells #[.func (.func 165) #[] #[.pointer (some ⟨w1.heap.size, 0, none⟩), .pointer (some ⟨w1.heap.size + 1, 0, none⟩), .pointer (some ⟨G, 0, none⟩)]] 83)) (w1.heap.size + 1 + 1) own d p ∧
    Below w1.heap.size w1 (((w1.alloc (.cells #[.slice A own.length c] 31)).alloc (.cells #[.bool d] 4)).alloc (.cells #[.func (.func 165) #[] #[.pointer (some ⟨w1.heap.size, 0, none⟩), .pointer (some ⟨w1.heap.size + 1, 0, none⟩), .pointer (some ⟨G, 0, none⟩)]] 83)) := by
  have b1 : Below w1.heap.size w1 (w1.alloc (.cells #[.slice A own.length c] 31)) := (Below.refl _ _).alloc (Nat.le_refl _) _
  have c1 := World.cell?_alloc_new w1 #[.slice A own.length c] 31 0
  have s1 := World.size_alloc w1 (.cells #[.slice A own.length c] 31)
  generalize w1.alloc (.cells #[.slice A own.length c] 31) = w2 at *
  have b2 : Below w2.heap.size w2 (w2.alloc (.cells #[.bool d] 4)) := (Below.refl _ _).alloc (Nat.le_refl _) _
  have c2 := World.cell?_alloc_new w2 #[.bool d] 4 0
  have s2 := World.size_alloc w2 (.cells #[.bool d] 4)
  generalize w2.alloc (.cells #[.bool d] 4) = w3 at *
  have b3 : Below w3.heap.size w3 (w3.alloc (.cells #[.func (.func 165) #[] #[.pointer (some ⟨w1.heap.size, 0, none⟩), .pointer (some ⟨w1.heap.size + 1, 0, none⟩), .pointer (some ⟨G, 0, none⟩)]] 83)) := (Below.refl _ _).alloc (Nat.le_refl _) _
  have c3 := World.cell?_alloc_new w3 #[.func (.func 165) #[] #[.pointer (some ⟨w1.heap.size, 0, none⟩), .pointer (some ⟨w1.heap.size + 1, 0, none⟩), .pointer (some ⟨G, 0, none⟩)]] 83 0
  generalize w3.alloc (.cells #[.func (.func 165) #[] #[.pointer (some ⟨w1.heap.size, 0, none⟩), .pointer (some ⟨w1.heap.size + 1, 0, none⟩), .pointer (some ⟨G, 0, none⟩)]] 83) = w4 at *
  rw [s2, s1] at c3
  rw [s1] at c2
  have b23 := b2.trans (b3.mono b2.size)
  have b13 := b1.trans (b23.mono b1.size)
  exact ⟨⟨w1.heap.size, w1.heap.size + 1, G, c3, ⟨⟨A, c, cell_on c1 b23, hs.on b13⟩, cell_on c2 b3, cell_on hp b13⟩⟩, b13⟩

set_option maxHeartbeats 4000000 in
set_option maxRecDepth 100000 in
theorem clearof_any (x : Pm) (w : World) : Calls Tryz.prog 149 #[x.val] w fun e w' => ∃ B5, e = .returned (.func (.func 168) #[] #[.pointer (some ⟨B5, 0, none⟩)]) ∧ Hid (ClearAt w' B5 (touches x.key) (dirB x.kind) x.p) ∧ Below w.heap.size w w' := by
  have CT := fun W => ctouched_any x W
  generalize touches x.key = own at *
  obtain ⟨kind, p, q, at_, a1, c1, old, a2, c2, new⟩ := x
  unfold Pm.val at CT ⊢
  simp only [] at CT ⊢
  obtain ⟨hal, hx⟩ := box1 w ⟨kind, p, q, at_, a1, c1, old, a2, c2, new⟩
  have e0 : (w.alloc (.cells (Pm.cells ⟨kind, p, q, at_, a1, c1, old, a2, c2, new⟩).toArray 33)) = (w.alloc (.cells #[.int .i64 kind, .string p, .string q, .int .i64 at_, .slice a1 old.length c1, .slice a2 new.length c2] 33)) := rfl
  rw [e0] at hal hx
  have HX := Lib.hid hx
  have HA := Lib.hid hal
  have CT := Lib.hid (CT (w.alloc (.cells #[.int .i64 kind, .string p, .string q, .int .i64 at_, .slice a1 old.length c1, .slice a2 new.length c2] 33)))
  clear hx hal e0
  by_cases h1 : kind = 1
  · have hd : dirB kind = true := by simp [dirB, h1]
    rw [hd]
    have k1 : (kind == 1) = true := by simpa using h1
    clear hd h1
    go_enter Tryz.func149, Tryz.ntmps149
    go_wp2_with fail
    generalize (w.alloc (.cells #[.int .i64 kind, .string p, .string q, .int .i64 at_, .slice a1 old.length c1, .slice a2 new.length c2] 33)) = wa at *
    refine CT.out.mono ?_
    rintro e w1 ⟨A, c, rfl, hnil, hs, hb⟩
    have hx1 := HX.out.on hb
    have b0 := cell_on hx1.c0 ((Below.refl w1.heap.size w1).alloc (Nat.le_refl _) (.cells #[.slice A own.length c] 31))
    have hm := clear_made w1 w.heap.size own A c true p hs hx1.c1
    have HM := Lib.hid hm.1
    have HB := Lib.hid ((HA.out.trans (hb.mono HA.out.size)).trans (hm.2.mono (HA.out.trans (hb.mono HA.out.size)).size))
    clear hm hs hb hx1 CT HX HA hnil
    go_wp2
    go_ret
    exact ⟨_, rfl, HM, HB.out⟩
  · by_cases h2 : kind = 2
    · have hd : dirB kind = true := by simp [dirB, h2]
      rw [hd]
      have k1 : (kind == 1) = false := by simpa using h1
      have k2 : (kind == 2) = true := by simpa using h2
      clear hd h1 h2
      go_enter Tryz.func149, Tryz.ntmps149
      go_wp2_with fail
      generalize (w.alloc (.cells #[.int .i64 kind, .string p, .string q, .int .i64 at_, .slice a1 old.length c1, .slice a2 new.length c2] 33)) = wa at *
      refine CT.out.mono ?_
      rintro e w1 ⟨A, c, rfl, hnil, hs, hb⟩
      have hx1 := HX.out.on hb
      have b0 := cell_on hx1.c0 ((Below.refl w1.heap.size w1).alloc (Nat.le_refl _) (.cells #[.slice A own.length c] 31))
      have hm := clear_made w1 w.heap.size own A c true p hs hx1.c1
      have HM := Lib.hid hm.1
      have HB := Lib.hid ((HA.out.trans (hb.mono HA.out.size)).trans (hm.2.mono (HA.out.trans (hb.mono HA.out.size)).size))
      clear hm hs hb hx1 CT HX HA hnil
      go_wp2
      go_ret
      exact ⟨_, rfl, HM, HB.out⟩
    · have hd : dirB kind = false := by simp [dirB, h1, h2]
      rw [hd]
      have k1 : (kind == 1) = false := by simpa using h1
      have k2 : (kind == 2) = false := by simpa using h2
      clear hd h1 h2
      go_enter Tryz.func149, Tryz.ntmps149
      go_wp2_with fail
      generalize (w.alloc (.cells #[.int .i64 kind, .string p, .string q, .int .i64 at_, .slice a1 old.length c1, .slice a2 new.length c2] 33)) = wa at *
      refine CT.out.mono ?_
      rintro e w1 ⟨A, c, rfl, hnil, hs, hb⟩
      have hx1 := HX.out.on hb
      have b0 := cell_on hx1.c0 ((Below.refl w1.heap.size w1).alloc (Nat.le_refl _) (.cells #[.slice A own.length c] 31))
      have hm := clear_made w1 w.heap.size own A c false p hs hx1.c1
      have HM := Lib.hid hm.1
      have HB := Lib.hid ((HA.out.trans (hb.mono HA.out.size)).trans (hm.2.mono (HA.out.trans (hb.mono HA.out.size)).size))
      clear hm hs hb hx1 CT HX HA hnil
      go_wp2
      go_ret
      exact ⟨_, rfl, HM, HB.out⟩
/-- Are two steps apart, as package commute looks. -/
def clearB (p q : Pk) : Bool := !((touches q).any (meetB (touches p) (dirB p.kind) (toB p.path))) && !((touches p).any (meetB (touches q) (dirB q.kind) (toB q.path)))
theorem touches_len (p : Pk) : (touches p).length ≤ 1000000 := by unfold touches; split <;> simp
theorem touches_each {x : Pm} (hp : x.p.size ≤ 1000000) (hq : x.dst.size ≤ 1000000) : ∀ l ∈ touches x.key, l.length ≤ 1000000 := by
  intro l hl
  unfold touches at hl
  split at hl
  · simp only [List.mem_cons, List.not_mem_nil, or_false] at hl
    rcases hl with rfl | rfl
    · exact hp
    · exact hq
  · simp only [List.mem_cons, List.not_mem_nil, or_false] at hl
    subst hl
    exact hp
set_option maxHeartbeats 8000000 in
set_option maxRecDepth 100000 in
theorem capart_any (x y : Pm) (w : World) (hp1 : x.p.size ≤ 1000000) (hq1 : x.dst.size ≤ 1000000) (hp2 : y.p.size ≤ 1000000) (hq2 : y.dst.size ≤ 1000000) (r : Bool) (hr : clearB x.key y.key = r) :
    Calls Tryz.prog 117 #[x.val, y.val] w fun e w' => e = .returned (.bool r) ∧ Below w.heap.size w w' := by
  have C1 := Lib.hid (fun W => clearof_any x W)
  have C2 := Lib.hid (fun W => clearof_any y W)
  have T1 := Lib.hid (fun W => ctouched_any x W)
  have T2 := Lib.hid (fun W => ctouched_any y W)
  have HQ1 := Lib.hid (fun (B5 : Nat) (A : Option Addr) (cap : Nat) W (h : ClearAt W B5 (touches x.key) (dirB x.kind) x.p) (hs : Strs W W.heap.size A (toBs (touches y.key))) => clear_any B5 (touches x.key) (dirB x.kind) x.p A (touches y.key) cap W h (touches_len _) hp1 hs (touches_len _) (touches_each hp2 hq2))
  have HQ2 := Lib.hid (fun (B5 : Nat) (A : Option Addr) (cap : Nat) W (h : ClearAt W B5 (touches y.key) (dirB y.kind) y.p) (hs : Strs W W.heap.size A (toBs (touches x.key))) => clear_any B5 (touches y.key) (dirB y.kind) y.p A (touches x.key) cap W h (touches_len _) hp2 hs (touches_len _) (touches_each hp1 hq1))
  have hk1 : clearB x.key y.key = (!((touches y.key).any (meetB (touches x.key) (dirB x.kind) x.p)) && !((touches x.key).any (meetB (touches y.key) (dirB y.kind) y.p))) := by
    unfold clearB
    simp only [Pm.key, toB_of]
  rw [hk1] at hr
  generalize (touches y.key).any (meetB (touches x.key) (dirB x.kind) x.p) = r1 at *
  generalize (touches x.key).any (meetB (touches y.key) (dirB y.kind) y.p) = r2 at *
  generalize touches x.key = tx at *
  generalize touches y.key = ty at *
  obtain ⟨kind, p, q, at_, a1, c1, old, a2, c2, new⟩ := x
  obtain ⟨kind2, p2, q2, at2, a3, c3, old2, a4, c4, new2⟩ := y
  unfold Pm.val at C1 C2 T1 T2 ⊢
  simp only [] at C1 C2 T1 T2 HQ1 HQ2 ⊢
  obtain ⟨hal, hx, hy⟩ := box2 w ⟨kind, p, q, at_, a1, c1, old, a2, c2, new⟩ ⟨kind2, p2, q2, at2, a3, c3, old2, a4, c4, new2⟩
  have e0 : ((w.alloc (.cells (Pm.cells ⟨kind, p, q, at_, a1, c1, old, a2, c2, new⟩).toArray 33)).alloc (.cells (Pm.cells ⟨kind2, p2, q2, at2, a3, c3, old2, a4, c4, new2⟩).toArray 33)) = ((w.alloc (.cells #[.int .i64 kind, .string p, .string q, .int .i64 at_, .slice a1 old.length c1, .slice a2 new.length c2] 33)).alloc (.cells #[.int .i64 kind2, .string p2, .string q2, .int .i64 at2, .slice a3 old2.length c3, .slice a4 new2.length c4] 33)) := rfl
  rw [e0] at hal hx hy
  have HX := Lib.hid hx
  have HY := Lib.hid hy
  have HA := Lib.hid hal
  have HR := Lib.hid hr
  clear hal hx hy e0 hr hk1 hp1 hq1 hp2 hq2
  go_enter Tryz.func117, Tryz.ntmps117
  go_wp2_with fail
  generalize ((w.alloc (.cells #[.int .i64 kind, .string p, .string q, .int .i64 at_, .slice a1 old.length c1, .slice a2 new.length c2] 33)).alloc (.cells #[.int .i64 kind2, .string p2, .string q2, .int .i64 at2, .slice a3 old2.length c3, .slice a4 new2.length c4] 33)) = wa at *
  have HDR : Hid (Below wa.heap.size wa wa.drew) := (Below.refl _ _).drew
  have S0 := Lib.hid (six_six (HX.out.on HDR.out) (HY.out.on HDR.out))
  go_region_held3 (fun w' => w'.cell? ⟨w.heap.size, 0, none⟩ = some (.int .i64 kind) ∧ w'.cell? ⟨w.heap.size, 1, none⟩ = some (.string p) ∧ w'.cell? ⟨w.heap.size, 2, none⟩ = some (.string q) ∧ w'.cell? ⟨w.heap.size, 3, none⟩ = some (.int .i64 at_) ∧ w'.cell? ⟨w.heap.size, 4, none⟩ = some (.slice a1 old.length c1) ∧ w'.cell? ⟨w.heap.size, 5, none⟩ = some (.slice a2 new.length c2) ∧ w'.cell? ⟨w.heap.size + 1, 0, none⟩ = some (.int .i64 kind2) ∧ w'.cell? ⟨w.heap.size + 1, 1, none⟩ = some (.string p2) ∧ w'.cell? ⟨w.heap.size + 1, 2, none⟩ = some (.string q2) ∧ w'.cell? ⟨w.heap.size + 1, 3, none⟩ = some (.int .i64 at2) ∧ w'.cell? ⟨w.heap.size + 1, 4, none⟩ = some (.slice a3 old2.length c3) ∧ w'.cell? ⟨w.heap.size + 1, 5, none⟩ = some (.slice a4 new2.length c4)) (first
    | with_reducible exact S0.out
    | with_reducible exact S7.out
    | with_reducible exact S8.out
    | (go_keep; done)) (first
    | (go_at_call 149; with_reducible refine (C1.out _).mono ?_; rintro e w7 ⟨B7, rfl, hc7, hb7⟩
       have X7 := Lib.hid (HDR.out.trans (hb7.mono HDR.out.size))
       have S7 := Lib.hid (six_six (HX.out.on X7.out) (HY.out.on X7.out)))
    | (go_at_call 149; with_reducible refine (C2.out _).mono ?_; rintro e w8 ⟨B8, rfl, hc8, hb8⟩
       have X8 := Lib.hid (X7.out.trans (hb8.mono X7.out.size))
       have S8 := Lib.hid (six_six (HX.out.on X8.out) (HY.out.on X8.out))))
  have K7 := Lib.hid (hc7.out.on hb8)
  have K8 := Lib.hid hc8.out
  obtain ⟨c0, c1', c2', c3', c4', c5, d0, d1, d2, d3, d4, d5⟩ := S8.out
  clear S0 S7 S8 hc7 hc8 hb7 hb8 X7 C1 C2
  go_wp2_with fail
  refine (T2.out _).mono ?_
  rintro e w9 ⟨A9, k9, rfl, hn9, hs9, hb9⟩
  have X9 := Lib.hid (X8.out.trans (hb9.mono X8.out.size))
  have S9 := Lib.hid hs9
  have K79 := Lib.hid (K7.out.on hb9)
  have K89 := Lib.hid (K8.out.on hb9)
  clear c0 c1' c2' c3' c4' c5 d0 d1 d2 d3 d4 d5 hb9 hs9 hn9 K7 K8
  go_wp2_with fail
  refine (HQ1.out B7 A9 k9 w9 K79.out S9.out).mono ?_
  rintro e w10 ⟨rfl, hb10⟩
  have X10 := Lib.hid (X9.out.trans (hb10.mono X9.out.size))
  have K810 := Lib.hid (K89.out.on hb10)
  clear hb10 S9 K79 K89 HQ1 T2
  cases r1
  · have hx10 := HX.out.on X10.out
    have c0 := hx10.c0
    have c1' := hx10.c1
    have c2' := hx10.c2
    have c3' := hx10.c3
    have c4' := hx10.c4
    have c5 := hx10.c5
    clear hx10
    go_wp2_with fail
    refine (T1.out _).mono ?_
    rintro e w11 ⟨A11, k11, rfl, hn11, hs11, hb11⟩
    have X11 := Lib.hid (X10.out.trans (hb11.mono X10.out.size))
    have S11 := Lib.hid hs11
    have K811 := Lib.hid (K810.out.on hb11)
    clear c0 c1' c2' c3' c4' c5 hb11 hs11 hn11 K810
    go_wp2_with fail
    refine (HQ2.out B8 A11 k11 w11 K811.out S11.out).mono ?_
    rintro e w12 ⟨rfl, hb12⟩
    have X12 := Lib.hid (HA.out.trans ((X11.out.trans (hb12.mono X11.out.size)).mono HA.out.size))
    clear hb12
    go_wp2
    go_ret
    exact ⟨by rw [← HR.out]; rfl, X12.out⟩
  · have X12 := Lib.hid (HA.out.trans (X10.out.mono HA.out.size))
    go_wp2
    go_ret
    exact ⟨by rw [← HR.out]; rfl, X12.out⟩
theorem within_in {x d : List UInt8} (hx : names nameP x ≠ []) (hd : names nameP d ≠ []) : withinP nameP x d = inDir x d := by
  unfold withinP inDir
  simp [hx, hd]
/-- Package commute looks as the document says. -/
theorem clear_apart {p q : Pk} (hp : ckP p = 0) (hq : ckP q = 0) : clearB p q = apartP p q := by
  have kp := ck_facts hp
  have kq := ck_facts hq
  have dp : ∀ {p : Pk}, 1 ≤ p.kind → (dirB p.kind = true ↔ p.kind ≤ 2) := fun h => by
    unfold dirB
    rw [decide_eq_true_eq]
    omega
  have tp : ∀ {p : Pk}, p.kind ≤ 2 → touches p = [p.path] := fun h => by
    unfold touches
    rw [if_neg (by omega)]
  rw [Bool.eq_iff_iff, apart_iff]
  unfold clearB meetB
  simp only [Bool.and_eq_true, Bool.not_eq_true', List.any_eq_false, Bool.or_eq_true, decide_eq_true_eq, not_or, Bool.and_eq_true, not_and, of_toB]
  constructor
  · rintro ⟨h1, h2⟩ x hx y hy
    refine ⟨fun e => (h1 y hy).1 (e ▸ hx), fun h => ?_, fun h => ?_⟩
    · have e : x = p.path := by rw [tp h] at hx; simpa using hx
      have := (h1 y hy).2 ((dp kp.1).2 h)
      rw [within_in (touch_names hq hy) kp.2.2.2.2.1] at this
      rw [e]
      simpa using this
    · have e : y = q.path := by rw [tp h] at hy; simpa using hy
      have := (h2 x hx).2 ((dp kq.1).2 h)
      rw [within_in (touch_names hp hx) kq.2.2.2.2.1] at this
      rw [e]
      simpa using this
  · intro h
    refine ⟨fun y hy => ⟨fun hx => (h y hx y hy).1 rfl, fun hd => ?_⟩, fun x hx => ⟨fun hy => (h x hx x hy).1 rfl, fun hd => ?_⟩⟩
    · rw [within_in (touch_names hq hy) kp.2.2.2.2.1]
      have := (h _ (touch_path p) y hy).2.1 ((dp kp.1).1 hd)
      simp [this]
    · rw [within_in (touch_names hp hx) kq.2.2.2.2.1]
      have := (h x hx _ (touch_path q)).2.2 ((dp kq.1).1 hd)
      simp [this]

end Go.Proofs.YtalabahjfmcnbaaGreatDoor
