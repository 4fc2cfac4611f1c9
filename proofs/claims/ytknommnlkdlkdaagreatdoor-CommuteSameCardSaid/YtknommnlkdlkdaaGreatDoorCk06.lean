/- Package commute's at, onward, grown, ofOneFile, touched. slices.Contains of strings. strings.Split at a slash: what it leaves is what stands between slashes. Paths, plainly: where a path is cut, what lies within it, how it is moved, within which it lies; for any test of names that no slash passes. -/
import Derived.Test.YtknommnlkdlkdaaGreatDoorCk05
import Derived.WalkKit
import Derived.Test.YtknommnlkdlkdaaGreatDoorCk01
import Derived.Test.YtknommnlkdlkdaaGreatDoorShelf
import Derived.Shelf.Strings.Split
namespace Go.Proofs.YtknommnlkdlkdaaGreatDoor
open Go.RowKit
set_option linter.unusedVariables false

theorem pm_at1 {w : World} {g : Nat} {kind : Int} {p q f : ByteArray} {at_ : Int} {a1 : Option Addr} {c1 : Nat} {old : List (List UInt8)} {a2 : Option Addr} {c2 : Nat} {new : List (List UInt8)} (k : PrimAt w g ⟨kind, p, q, at_, a1, c1, old, a2, c2, new⟩) :
    PrimAt (w.setCell ⟨g, 1, none⟩ (.string f)) g ⟨kind, f, q, at_, a1, c1, old, a2, c2, new⟩ := by
  unfold PrimAt at k ⊢
  simp [World.setCell, Array.getElem?_modify, k, Pm.cells]
theorem pm_at3 {w : World} {g : Nat} {kind : Int} {p q : ByteArray} {at_ t : Int} {a1 : Option Addr} {c1 : Nat} {old : List (List UInt8)} {a2 : Option Addr} {c2 : Nat} {new : List (List UInt8)} (k : PrimAt w g ⟨kind, p, q, at_, a1, c1, old, a2, c2, new⟩) :
    PrimAt (w.setCell ⟨g, 3, none⟩ (.int .i64 t)) g ⟨kind, p, q, t, a1, c1, old, a2, c2, new⟩ := by
  unfold PrimAt at k ⊢
  simp [World.setCell, Array.getElem?_modify, k, Pm.cells]
set_option maxHeartbeats 8000000 in
set_option maxRecDepth 100000 in
theorem cat_any (f : ByteArray) (x : Pm) (w : World) (ok : x.Ok w w.heap.size) (m1 : x.old.length ≤ 1000000) (m2 : x.new.length ≤ 1000000) (hf : f.size ≤ 9223372036854775807) :
    Calls Tryz.prog 43 #[.string f, x.val] w (PrimLeft w ⟨x.kind, f.data.toList, x.dst.data.toList, x.at_, x.old, x.new⟩) := by
  obtain ⟨kind, p, q, at_, a1, c1, old, a2, c2, new⟩ := x
  unfold Pm.val
  simp only [] at m1 m2 ⊢
  obtain ⟨hal, hx, hp⟩ := boxes w ⟨kind, f, q, at_, a1, c1, old, a2, c2, new⟩
  have e0 : ((w.alloc (.cells (Pm.cells ⟨kind, f, q, at_, a1, c1, old, a2, c2, new⟩).toArray 25)).alloc (.cells (Pm.cells ⟨0, ⟨#[]⟩, ⟨#[]⟩, 0, none, 0, [], none, 0, []⟩).toArray 25)) = ((w.alloc (.cells #[.int .i64 kind, .string f, .string q, .int .i64 at_, .slice a1 old.length c1, .slice a2 new.length c2] 25)).alloc (.cells #[.int .i64 0, .string ⟨#[]⟩, .string ⟨#[]⟩, .int .i64 0, .slice none 0 0, .slice none 0 0] 25)) := rfl
  rw [e0] at hal hx hp
  have HB := Lib.hid hal
  have HP := Lib.hid hp
  have C := Lib.hid (ccopied_any ⟨kind, f, q, at_, a1, c1, old, a2, c2, new⟩ _ ⟨(ok.on hal).h, hf, ok.q, ok.lo, ok.hi⟩ m1 m2)
  clear hal hx hp ok e0
  go_enter Tryz.func43, Tryz.ntmps43
  go_wp2_with fail
  refine C.out.mono ?_
  rintro e w2 ⟨y, rfl, hy, hb2⟩
  have HY := Lib.hid hy.out
  have hP2 := HP.out.on hb2
  have y0 := hP2.c0
  have y1 := hP2.c1
  have y2 := hP2.c2
  have y3 := hP2.c3
  have y4 := hP2.c4
  have y5 := hP2.c5
  have u0 := hP2.fz 0
  have u1 := hP2.fz 1
  have u2 := hP2.fz 2
  have u3 := hP2.fz 3
  have u4 := hP2.fz 4
  have u5 := hP2.fz 5
  have HF := Lib.hid (prim_set (w := w) (HB.out.trans (hb2.mono HB.out.size)) (Nat.le_succ _) hP2 hy.out.1 hy.out.2)
  have HPS := Lib.hid (setPrim_at hP2 y)
  clear hb2 hy hP2 C
  go_wp2
  (try simp only [Exit.inBlock, Exit.then])
  refine bodyPost_ret (ret_prim rfl _ _ _ _ rfl HPS.out) rfl ?_
  exact HF.out
set_option maxHeartbeats 8000000 in
set_option maxRecDepth 100000 in
theorem conward_any (b t : Int) (x : Pm) (w : World) (ok : x.Ok w w.heap.size) (m1 : x.old.length ≤ 1000000) (m2 : x.new.length ≤ 1000000) (ht : wrap64 (x.at_ + b) = t) :
    Calls Tryz.prog 74 #[.int .i64 b, x.val] w (PrimLeft w ⟨x.kind, x.p.data.toList, x.dst.data.toList, t, x.old, x.new⟩) := by
  obtain ⟨kind, p, q, at_, a1, c1, old, a2, c2, new⟩ := x
  unfold Pm.val
  simp only [] at m1 m2 ht ⊢
  obtain ⟨hal, hx, hp⟩ := boxes w ⟨kind, p, q, t, a1, c1, old, a2, c2, new⟩
  have e0 : ((w.alloc (.cells (Pm.cells ⟨kind, p, q, t, a1, c1, old, a2, c2, new⟩).toArray 25)).alloc (.cells (Pm.cells ⟨0, ⟨#[]⟩, ⟨#[]⟩, 0, none, 0, [], none, 0, []⟩).toArray 25)) = ((w.alloc (.cells #[.int .i64 kind, .string p, .string q, .int .i64 t, .slice a1 old.length c1, .slice a2 new.length c2] 25)).alloc (.cells #[.int .i64 0, .string ⟨#[]⟩, .string ⟨#[]⟩, .int .i64 0, .slice none 0 0, .slice none 0 0] 25)) := rfl
  rw [e0] at hal hx hp
  have HB := Lib.hid hal
  have HP := Lib.hid hp
  have hr := wrap_lo (at_ + b)
  rw [ht] at hr
  have C := Lib.hid (ccopied_any ⟨kind, p, q, t, a1, c1, old, a2, c2, new⟩ _ (by
    have o := ok.on hal
    exact ⟨⟨o.h.old, o.h.new, o.h.r1, o.h.r2, hr.1, hr.2, o.h.n1, o.h.n2⟩, o.p, o.q, o.lo, o.hi⟩) m1 m2)
  clear hr
  clear hal hx hp ok e0
  go_enter Tryz.func74, Tryz.ntmps74
  go_wp2_with fail
  refine C.out.mono ?_
  rintro e w2 ⟨y, rfl, hy, hb2⟩
  have hP2 := HP.out.on hb2
  have y0 := hP2.c0
  have y1 := hP2.c1
  have y2 := hP2.c2
  have y3 := hP2.c3
  have y4 := hP2.c4
  have y5 := hP2.c5
  have u0 := hP2.fz 0
  have u1 := hP2.fz 1
  have u2 := hP2.fz 2
  have u3 := hP2.fz 3
  have u4 := hP2.fz 4
  have u5 := hP2.fz 5
  have HF := Lib.hid (prim_set (w := w) (HB.out.trans (hb2.mono HB.out.size)) (Nat.le_succ _) hP2 hy.out.1 hy.out.2)
  have HPS := Lib.hid (setPrim_at hP2 y)
  clear hb2 hy hP2 C
  go_wp2
  (try simp only [Exit.inBlock, Exit.then])
  refine bodyPost_ret (ret_prim rfl _ _ _ _ rfl HPS.out) rfl ?_
  exact HF.out
/-- A step in a parameter's cells. -/
theorem box1 (w : World) (x : Pm) : Below w.heap.size w (w.alloc (.cells x.cells.toArray 25)) ∧ PrimAt (w.alloc (.cells x.cells.toArray 25)) w.heap.size x := ⟨(Below.refl _ _).alloc (Nat.le_refl _) _, PrimAt.new_ w x⟩
set_option maxHeartbeats 2000000 in
set_option maxRecDepth 100000 in
theorem cgrown_any (x : Pm) (w : World) (m1 : x.old.length ≤ 1000000) (m2 : x.new.length ≤ 1000000) (t : Int) (ht : (x.new.length : Int) - x.old.length = t) :
    Calls Tryz.prog 75 #[x.val] w fun e w' => e = .returned (.int .i64 t) ∧ Below w.heap.size w w' := by
  obtain ⟨kind, p, q, at_, a1, c1, old, a2, c2, new⟩ := x
  unfold Pm.val
  simp only [] at m1 m2 ht ⊢
  obtain ⟨hal, hx⟩ := box1 w ⟨kind, p, q, at_, a1, c1, old, a2, c2, new⟩
  have b4 : (w.alloc (.cells #[.int .i64 kind, .string p, .string q, .int .i64 at_, .slice a1 old.length c1, .slice a2 new.length c2] 25)).cell? ⟨w.heap.size, 4, none⟩ = some (.slice a1 old.length c1) := hx.c4
  have b5 : (w.alloc (.cells #[.int .i64 kind, .string p, .string q, .int .i64 at_, .slice a1 old.length c1, .slice a2 new.length c2] 25)).cell? ⟨w.heap.size, 5, none⟩ = some (.slice a2 new.length c2) := hx.c5
  have HA := Lib.hid hal
  clear hal hx
  go_enter Tryz.func75, Tryz.ntmps75
  go_wp2
  go_ret
  subst ht
  exact ⟨rfl, HA.out⟩
/-- Both steps in parameters' cells. -/
theorem box2 (w : World) (x y : Pm) : Below w.heap.size w ((w.alloc (.cells x.cells.toArray 25)).alloc (.cells y.cells.toArray 25)) ∧
    PrimAt ((w.alloc (.cells x.cells.toArray 25)).alloc (.cells y.cells.toArray 25)) w.heap.size x ∧ PrimAt ((w.alloc (.cells x.cells.toArray 25)).alloc (.cells y.cells.toArray 25)) (w.heap.size + 1) y := by
  have hb0 : Below w.heap.size w (w.alloc (.cells x.cells.toArray 25)) := (Below.refl _ _).alloc (Nat.le_refl _) _
  have hb1 : Below (w.alloc (.cells x.cells.toArray 25)).heap.size (w.alloc (.cells x.cells.toArray 25)) ((w.alloc (.cells x.cells.toArray 25)).alloc (.cells y.cells.toArray 25)) := (Below.refl _ _).alloc (Nat.le_refl _) _
  refine ⟨hb0.trans (hb1.mono hb0.size), (PrimAt.new_ w x).on hb1, ?_⟩
  have h := PrimAt.new_ (w.alloc (.cells x.cells.toArray 25)) y
  rw [World.size_alloc] at h
  exact h
set_option maxHeartbeats 8000000 in
set_option maxRecDepth 100000 in
theorem cone_any (x y : Pm) (w : World) (r : Bool) (hr : decide (x.kind = 6 ∧ y.kind = 6 ∧ x.p = y.p) = r) :
    Calls Tryz.prog 41 #[x.val, y.val] w fun e w' => e = .returned (.bool r) ∧ Below w.heap.size w w' := by
  obtain ⟨kind, p, q, at_, a1, c1, old, a2, c2, new⟩ := x
  obtain ⟨kind2, p2, q2, at2, a3, c3, old2, a4, c4, new2⟩ := y
  unfold Pm.val
  simp only [] at hr ⊢
  obtain ⟨hal, hx, hy⟩ := box2 w ⟨kind, p, q, at_, a1, c1, old, a2, c2, new⟩ ⟨kind2, p2, q2, at2, a3, c3, old2, a4, c4, new2⟩
  have e0 : ((w.alloc (.cells (Pm.cells ⟨kind, p, q, at_, a1, c1, old, a2, c2, new⟩).toArray 25)).alloc (.cells (Pm.cells ⟨kind2, p2, q2, at2, a3, c3, old2, a4, c4, new2⟩).toArray 25)) = ((w.alloc (.cells #[.int .i64 kind, .string p, .string q, .int .i64 at_, .slice a1 old.length c1, .slice a2 new.length c2] 25)).alloc (.cells #[.int .i64 kind2, .string p2, .string q2, .int .i64 at2, .slice a3 old2.length c3, .slice a4 new2.length c4] 25)) := rfl
  rw [e0] at hal hx hy
  have b0 := hx.c0
  have b1 := hx.c1
  have d0 := hy.c0
  have d1 := hy.c1
  have HA := Lib.hid hal
  have HR := Lib.hid hr
  clear hal hx hy e0 hr
  by_cases h1 : kind = 6
  · have k1 : (kind == 6) = true := by simpa using h1
    by_cases h2 : kind2 = 6
    · have k2 : (kind2 == 6) = true := by simpa using h2
      have k3 : (p.toList == p2.toList) = r := by rw [str_beq, ← HR.out]; simp [h1, h2]
      clear h1 h2
      go_enter Tryz.func41, Tryz.ntmps41
      cases r <;> go_wp2 <;> go_ret <;> exact ⟨rfl, HA.out⟩
    · have k2 : (kind2 == 6) = false := by simpa using h2
      have hf : r = false := by rw [← HR.out]; simp [h2]
      subst hf
      clear h1 h2
      go_enter Tryz.func41, Tryz.ntmps41
      go_wp2
      go_ret
      exact ⟨rfl, HA.out⟩
  · have k1 : (kind == 6) = false := by simpa using h1
    have hf : r = false := by rw [← HR.out]; simp [h1]
    subst hf
    clear h1
    go_enter Tryz.func41, Tryz.ntmps41
    go_wp2
    go_ret
    exact ⟨rfl, HA.out⟩
theorem strs_two (w : World) (p q : ByteArray) : Strs (w.alloc (.cells #[.string p, .string q] 9)) (w.alloc (.cells #[.string p, .string q] 9)).heap.size (some ⟨w.heap.size, 0, none⟩) [p, q] := fun _ => by
  refine ⟨w.heap.size, 0, rfl, by simp, fun j hj => ?_⟩
  match j, hj with
  | 0, _ => exact World.cell?_alloc_new w #[.string p, .string q] 9 0
  | 1, _ => exact World.cell?_alloc_new w #[.string p, .string q] 9 1
set_option maxHeartbeats 2000000 in
set_option maxRecDepth 100000 in
theorem ctouched_any (x : Pm) (w : World) : Calls Tryz.prog 28 #[x.val] w (RowLeft w (touches x.key)) := by
  obtain ⟨kind, p, q, at_, a1, c1, old, a2, c2, new⟩ := x
  unfold Pm.val
  obtain ⟨hal, hx⟩ := box1 w ⟨kind, p, q, at_, a1, c1, old, a2, c2, new⟩
  have e0 : (w.alloc (.cells (Pm.cells ⟨kind, p, q, at_, a1, c1, old, a2, c2, new⟩).toArray 25)) = (w.alloc (.cells #[.int .i64 kind, .string p, .string q, .int .i64 at_, .slice a1 old.length c1, .slice a2 new.length c2] 25)) := rfl
  rw [e0] at hal hx
  have b0 := hx.c0
  have b1 := hx.c1
  have b2 := hx.c2
  have HA := Lib.hid hal
  have HZ : Hid ((w.alloc (.cells #[.int .i64 kind, .string p, .string q, .int .i64 at_, .slice a1 old.length c1, .slice a2 new.length c2] 25)).heap.size = w.heap.size + 1) := World.size_alloc _ _
  clear hal hx e0
  by_cases h5 : kind = 5
  · have k5 : (kind == 5) = true := by simpa using h5
    have ht : touches (Pm.key ⟨kind, p, q, at_, a1, c1, old, a2, c2, new⟩) = [p.data.toList, q.data.toList] := by unfold touches; rw [if_pos (show (Pm.key ⟨kind, p, q, at_, a1, c1, old, a2, c2, new⟩).kind = 5 from h5)]; rfl
    rw [ht]
    clear h5 ht
    go_enter Tryz.func28, Tryz.ntmps28
    go_wp2
    go_ret
    generalize (w.alloc (.cells #[.int .i64 kind, .string p, .string q, .int .i64 at_, .slice a1 old.length c1, .slice a2 new.length c2] 25)) = wa at *
    refine ⟨some ⟨w.heap.size + 1, 0, none⟩, 2, rfl, (fun e => by cases e), ?_, HA.out.alloc HA.out.size _⟩
    rw [← HZ.out]
    have := strs_two wa p q
    simpa [toBs, toB_of] using this
  · have k5 : (kind == 5) = false := by simpa using h5
    have ht : touches (Pm.key ⟨kind, p, q, at_, a1, c1, old, a2, c2, new⟩) = [p.data.toList] := by unfold touches; rw [if_neg (show ¬ (Pm.key ⟨kind, p, q, at_, a1, c1, old, a2, c2, new⟩).kind = 5 from h5)]; rfl
    rw [ht]
    clear h5 ht
    go_enter Tryz.func28, Tryz.ntmps28
    go_wp2
    go_ret
    generalize (w.alloc (.cells #[.int .i64 kind, .string p, .string q, .int .i64 at_, .slice a1 old.length c1, .slice a2 new.length c2] 25)) = wa at *
    refine ⟨some ⟨w.heap.size + 1, 0, none⟩, 1, rfl, (fun e => by cases e), ?_, HA.out.alloc HA.out.size _⟩
    rw [← HZ.out]
    have := strs_one wa p
    simpa [toBs, toB_of] using this
end Go.Proofs.YtknommnlkdlkdaaGreatDoor
namespace Go.Proofs.YtknommnlkdlkdaaGreatDoor
open Go.RowKit
set_option linter.unusedVariables false

theorem contains_eq (ss : List ByteArray) (s : ByteArray) : Lib.containsS ss s = decide (s.data.toList ∈ lists ss) := by
  rw [Bool.eq_iff_iff, Lib.containsS_iff, decide_eq_true_eq, lists, List.mem_map]
  constructor
  · exact fun h => ⟨s, h, rfl⟩
  · rintro ⟨t, ht, e⟩
    rw [← bytes_inj e]
    exact ht

theorem contains_any (A : Option Addr) (ss : List ByteArray) (cap : Nat) (s : ByteArray) (w : World) (hs : Strs w w.heap.size A ss) (hn : ss.length ≤ 1000000) :
    Calls Tryz.prog 78 #[.slice A ss.length cap, .string s] w fun e w' => e = .returned (.bool (decide (s.data.toList ∈ lists ss))) ∧ w' = w := by
  by_cases h0 : 0 < ss.length
  · obtain ⟨b, off, rfl, hb, hc⟩ := hs h0
    have h := Tryz.slices_Contains_string b off ss.length cap ss s w (Nat.le_refl _) (by omega) (fun j hj => by rw [hc j hj]; simp [List.getD_eq_getElem?_getD, List.getElem?_eq_getElem hj])
    rw [List.take_of_length_le (Nat.le_refl _), contains_eq] at h
    exact h
  · obtain rfl : ss = [] := List.length_eq_zero_iff.1 (by omega)
    have h := Tryz.slices_Contains_string_empty A cap s w
    simpa [lists] using h
end Go.Proofs.YtknommnlkdlkdaaGreatDoor
namespace Go.Proofs.YtknommnlkdlkdaaGreatDoor
open Go.RowKit
set_option linter.unusedVariables false

theorem split_pieces : ∀ l : List UInt8, Lib.split l [47] = pieces l
  | [] => by
    unfold Lib.split
    rw [Lib.count_miss (by simp [Lib.index])]
    rfl
  | c :: l => by
    have ih := split_pieces l
    unfold Lib.split at ih ⊢
    by_cases h : c = 47
    · subst h
      have hix : Lib.index (47 :: l) [47] = ((0 : Nat) : Int) := by rw [Lib.index]; simp [List.isPrefixOf]
      rw [Lib.count_cons_eq, Nat.add_comm, Lib.splitK, hix, pieces, if_pos rfl]
      simp [ih]
    · have hp : ([47] : List UInt8).isPrefixOf (c :: l) = false := by simp [List.isPrefixOf, Ne.symm h]
      have hix : Lib.index (c :: l) [47] = if Lib.index l [47] == -1 then -1 else Lib.index l [47] + 1 := by rw [Lib.index, hp]; simp
      rw [Lib.count_cons_ne _ _ _ h, pieces, if_neg h, ← ih]
      by_cases hm : Lib.index l [47] = -1
      · rw [Lib.count_miss hm]
        rfl
      · have hge := Lib.index_ge l [47]
        obtain ⟨j, hj⟩ : ∃ j : Nat, Lib.index l [47] = j := ⟨(Lib.index l [47]).toNat, by omega⟩
        have hix' : Lib.index (c :: l) [47] = ((j + 1 : Nat) : Int) := by rw [hix, if_neg (fun e => hm (beq_iff_eq.1 e)), hj]; omega
        rw [Lib.count_hit (by simp) hj, Nat.add_comm 1, Lib.splitK, Lib.splitK, hix', hj]
        have n1 : ¬ (((j + 1 : Nat) : Int) == -1) = true := fun e => by have := beq_iff_eq.1 e; omega
        have n2 : ¬ (((j : Nat) : Int) == -1) = true := fun e => by have := beq_iff_eq.1 e; omega
        rw [if_neg n1, if_neg n2]
        simp
theorem split_bytes (s : ByteArray) : Lib.splitB ⟨#[47]⟩ 0 (Lib.countB s ⟨#[47]⟩) s = toBs (pieces s.data.toList) := by
  have h := Lib.splitB_data ⟨#[47]⟩ 0 (Lib.countB s ⟨#[47]⟩) s
  have e : lists (Lib.splitB ⟨#[47]⟩ 0 (Lib.countB s ⟨#[47]⟩) s) = pieces s.data.toList := by
    unfold lists
    rw [h, ← split_pieces]
    rfl
  rw [← e, toBs_lists]
theorem split_count (s : ByteArray) : Lib.countB s ⟨#[47]⟩ + 1 = (pieces s.data.toList).length := by
  have h := Lib.splitB_all ⟨#[47]⟩ (by decide) 0 _ s rfl
  rw [split_bytes, toBs_len] at h
  exact h.symm
open Go.Shelf in
set_option maxHeartbeats 1000000 in
theorem split_slash {P : Program} {ρ : Ren} (L : Lays.n146 P ρ) (hi9 : (P.info? (ρ.t 9)).map (fun i => (i.zero, i.size, i.bytes)) = some (some (.string ByteArray.empty), 1, 16)) (s : ByteArray) (w : World) (hs : s.size < 4294967281) :
    Calls P (ρ.f 146) #[.string s, .string ⟨#[47]⟩] w fun e w' => e = .returned (.slice (some ⟨w.heap.size, 0, none⟩) (pieces s.data.toList).length (pieces s.data.toList).length) ∧ w' = w.alloc (.cells ((toBs (pieces s.data.toList)).map Value.string).toArray (ρ.t 9)) := by
  have hle := Lib.countB_le ⟨#[47]⟩ (by decide) s.size s (Nat.le_refl _)
  have hI : ∀ (x : ByteArray) (c : Array Value), x.size ≤ s.size → Calls P (ρ.f 143) #[.string x, .string ⟨#[47]⟩] (w.alloc (.cells c (ρ.t 9))) fun e w' => e = .returned (.int .i64 (Lib.indexB x ⟨#[47]⟩)) ∧ w' = w.alloc (.cells c (ρ.t 9)) := fun x c _ => by
    have h := Any.strings_Index_one { L with } x 47 (w.alloc (.cells c (ρ.t 9)))
    rwa [← Lib.index_one] at h
  have hC : Calls P (ρ.f 138) #[.string s, .string ⟨#[47]⟩] w fun e w' => e = .returned (.int .i64 (Lib.countB s ⟨#[47]⟩)) ∧ w' = w := by
    have h := Any.strings_Count_one { L with } s 47 w
    unfold Lib.countByte at h
    rwa [← Lib.count_one] at h
  have c := Any.strings_genSplit_core { L with } hi9 s ⟨#[47]⟩ 0 (-1) (Lib.countB s ⟨#[47]⟩ + 1) w hs (by decide) (Nat.zero_le _) hI hC (by decide) (by decide) (by rw [if_pos (by decide)]; omega)
  rw [Nat.add_sub_cancel, split_bytes, toBs_len, split_count] at c
  have e2 : Lib.cellsOf (toBs (pieces s.data.toList)) (pieces s.data.toList).length = ((toBs (pieces s.data.toList)).map Value.string).toArray := by
    rw [← toBs_len (pieces s.data.toList)]
    exact Lib.cellsOf_full _
  rw [e2] at c
  clear e2 hI hC hle
  generalize ((toBs (pieces s.data.toList)).map Value.string).toArray = cs at *
  generalize (pieces s.data.toList).length = n at *
  have t3 := L.t3; have t9 := L.t9; have t31 := L.t31
  have a3 := L.a3; have a9 := L.a9; have a31 := L.a31
  have z3 := L.z3; have v3 := L.v3; have z9 := L.z9; have v9 := L.v9; have z31 := L.z31; have v31 := L.v31
  have e221 : ∀ args w, (callFunc (ρ.f 221) args).run P w = .ok (.enter (ρ.f 221) args) w := enters_of L.f221 (by kernel_rfl) rfl
  go_enter L.f146, Body.n146_ntmps ρ
  go_wp2_with (go_at_fn (ρ.f 221); refine c.mono ?_; rintro e w' ⟨rfl, hw⟩; rw [hw])
  go_ret
  exact ⟨rfl, rfl⟩
end Go.Proofs.YtknommnlkdlkdaaGreatDoor
namespace Go.Proofs.YtknommnlkdlkdaaGreatDoor
set_option linter.unusedVariables false
set_option linter.unusedSectionVars false

theorem pieces_app : ∀ (x r : List UInt8), pieces (x ++ 47 :: r) = pieces x ++ pieces r
  | [], r => by simp [pieces]
  | c :: x, r => by
    have ih := pieces_app x r
    rw [List.cons_append]
    by_cases h : c = 47
    · rw [pieces, if_pos h, ih, pieces, if_pos h]
      rfl
    · rw [pieces, if_neg h, ih, pieces, if_neg h]
      cases e : pieces x with
      | nil => exact absurd e (pieces_ne x)
      | cons a t => rfl
theorem join_app : ∀ (a b : List (List UInt8)), a ≠ [] → b ≠ [] → joinB (a ++ b) = joinB a ++ 47 :: joinB b
  | [], _, h, _ => absurd rfl h
  | [x], b, _, hb => by rw [List.singleton_append, join_cons x hb]; rfl
  | x :: y :: a, b, _, hb => by
    have ih := join_app (y :: a) b (by simp) hb
    rw [List.cons_append, join_cons x (by simp), ih, join_cons x (by simp), List.append_assoc]
    rfl
theorem pieces_len (p : List UInt8) : 1 ≤ (pieces p).length := by
  have := pieces_ne p
  cases e : pieces p with
  | nil => exact absurd e this
  | cons a t => simp
theorem take_len {a p r : List UInt8} (h : p = a ++ r) : a.length ≤ p.length := by rw [h]; simp

section
variable {nm : List UInt8 → Bool}
/-- What a path begins with, up to a slash, is a path. -/
theorem names_app {x r : List UInt8} (h : names nm (x ++ 47 :: r) ≠ []) : names nm (x ++ 47 :: r) = pieces x ++ pieces r ∧ names nm x = pieces x ∧ names nm x ≠ [] := by
  obtain ⟨h1, h2, h3, h4⟩ := names_pieces nm h
  have e := pieces_app x r
  have hx : names nm x = pieces x := by
    unfold names
    rw [if_pos]
    refine ⟨?_, ?_, ?_⟩
    · rw [List.length_append] at h2; omega
    · rw [e, List.all_append, Bool.and_eq_true] at h3; exact h3.1
    · rw [e, List.length_append] at h4; omega
  exact ⟨by rw [h1, e], hx, by rw [hx]; exact pieces_ne x⟩
theorem dir_no {p : List UInt8} (h : names nm p = []) : dirP nm p = [] ∧ baseP nm p = [] := by
  unfold dirP baseP
  rw [h]
  exact ⟨rfl, rfl⟩
theorem dir_one {p : List UInt8} (h : names nm p ≠ []) (hs : (47 : UInt8) ∉ p) : dirP nm p = [] ∧ baseP nm p = p := by
  unfold dirP baseP
  rw [(names_pieces nm h).1, pieces_one p hs]
  exact ⟨rfl, rfl⟩
theorem dir_cut {x r : List UInt8} (h : names nm (x ++ 47 :: r) ≠ []) (hs : (47 : UInt8) ∉ r) : dirP nm (x ++ 47 :: r) = x ∧ baseP nm (x ++ 47 :: r) = r := by
  unfold dirP baseP
  rw [(names_app h).1, pieces_one r hs]
  simp [join_pieces]
/-- Within the root lies each path. -/
theorem within_root (h0 : nm [] = false) (p : List UInt8) : withinP nm p [] = decide (names nm p ≠ []) := by
  have e : names nm [] = [] := by simp [names, pieces, h0]
  unfold withinP beginsP
  rw [e]
  by_cases hp : names nm p = []
  · simp [hp]
  · have := List.length_pos_iff.2 hp
    simp [hp, this]
theorem pre_of_prefix {d p : List UInt8} (h : (d ++ [47]).isPrefixOf p = true) : ∃ r, p = d ++ 47 :: r := by
  obtain ⟨r, e⟩ := List.isPrefixOf_iff_prefix.1 h
  exact ⟨r, by rw [← e]; simp⟩
theorem prefix_of_pre (d r : List UInt8) : (d ++ [47]).isPrefixOf (d ++ 47 :: r) = true := List.isPrefixOf_iff_prefix.2 ⟨r, by simp⟩
/-- Within another path lies what begins with it and a slash. -/
theorem within_dir {d : List UInt8} (hd : d ≠ []) (p : List UInt8) : withinP nm p d = ((d ++ [47]).isPrefixOf p && decide (names nm p ≠ [])) := by
  rw [Bool.eq_iff_iff]
  unfold withinP beginsP
  simp only [Bool.and_eq_true, Bool.or_eq_true, decide_eq_true_eq]
  constructor
  · rintro ⟨⟨⟨hp, hdn⟩, hl⟩, hb1, hb2⟩
    have hdn := hdn.resolve_left hd
    refine ⟨?_, hp⟩
    have e : names nm p = names nm d ++ (names nm p).drop (names nm d).length := by
      conv => lhs; rw [← List.take_append_drop (names nm d).length (names nm p), hb2]
    have hr : (names nm p).drop (names nm d).length ≠ [] := by
      intro k
      have := congrArg List.length k
      rw [List.length_drop, List.length_nil] at this
      omega
    have e2 := join_app _ _ hdn hr
    rw [← e, join_names nm hp, join_names nm hdn] at e2
    rw [e2]
    exact prefix_of_pre _ _
  · rintro ⟨hpre, hp⟩
    obtain ⟨r, rfl⟩ := pre_of_prefix hpre
    obtain ⟨h1, h2, h3⟩ := names_app hp
    rw [h1, h2]
    have hl := pieces_len r
    refine ⟨⟨⟨by simp [pieces_ne], .inr (pieces_ne d)⟩, by simp; omega⟩, by simp, by simp⟩
/-- What a path is moved to. -/
theorem move_no {p f : List UInt8} (t : List UInt8) (h : names nm f = [] ∨ (p ≠ f ∧ withinP nm p f = false)) (hf0 : f ≠ [] ∨ names nm f = []) : moveP nm p f t = p := by
  unfold moveP
  rw [if_neg]
  rintro ⟨h1, h2, h3, h4, h5⟩
  rcases h with h | ⟨hne, hw⟩
  · exact h2 h
  · have hfd : f ≠ [] := hf0.resolve_right h2
    unfold beginsP at h4
    simp only [Bool.and_eq_true, decide_eq_true_eq] at h4
    have : ¬ (names nm f).length < (names nm p).length := by
      intro hl
      have : withinP nm p f = true := by
        unfold withinP beginsP
        simp [h1, h2, hl, h4.1, h4.2]
      rw [hw] at this
      cases this
    have e : names nm p = names nm f := by
      rw [← h4.2, List.take_of_length_le (by omega)]
    exact hne (names_inj nm e h1)
theorem move_self {p : List UInt8} (t : List UInt8) (hp : names nm p ≠ []) : moveP nm p p t = if names nm t ≠ [] then t else p := by
  unfold moveP beginsP
  rw [List.drop_length, List.append_nil, List.take_length]
  by_cases h : names nm t = []
  · simp [h]
  · rw [join_names nm h]
    simp [h, hp]
theorem move_in {f r : List UInt8} (t : List UInt8) (hp : names nm (f ++ 47 :: r) ≠ []) : moveP nm (f ++ 47 :: r) f t = if names nm (t ++ 47 :: r) ≠ [] then t ++ 47 :: r else f ++ 47 :: r := by
  obtain ⟨h1, h2, h3⟩ := names_app hp
  unfold moveP beginsP
  rw [h1, h2]
  simp only [List.length_append, List.take_append_of_le_length (Nat.le_refl _), List.take_length, List.drop_left]
  by_cases ht : names nm t = []
  · have : names nm (t ++ 47 :: r) = [] := by
      by_cases k : names nm (t ++ 47 :: r) = []
      · exact k
      · exact absurd ht (names_app k).2.2
    simp [ht, this]
  · have e : joinB (names nm t ++ pieces r) = t ++ 47 :: r := by
      rw [join_app _ _ ht (pieces_ne r), join_names nm ht, join_pieces]
    rw [e]
    by_cases k : names nm (t ++ 47 :: r) = []
    · simp [k]
    · simp [k, ht, pieces_ne]
/-- How far a path is, as a number: by names, then by bytes. -/
theorem names_take (hs : ∀ x, nm x = true → (47 : UInt8) ∉ x) {p : List UInt8} {m : Nat} (h1 : 1 ≤ m) (hm : m ≤ (names nm p).length) : names nm (joinB ((names nm p).take m)) = (names nm p).take m := by
  have hp : names nm p ≠ [] := fun e => by rw [e] at hm; simp at hm; omega
  obtain ⟨e1, e2, e3, e4⟩ := names_pieces nm hp
  have hne : (names nm p).take m ≠ [] := fun e => by
    have := congrArg List.length e
    rw [List.length_take, List.length_nil] at this
    omega
  have hall : ((names nm p).take m).all nm = true := by
    rw [List.all_eq_true]
    intro x hx
    rw [e1] at hx
    exact List.all_eq_true.1 e3 x (List.mem_of_mem_take hx)
  rw [names_join nm hne hall hs, if_pos]
  refine ⟨?_, ?_⟩
  · by_cases hd : (names nm p).drop m = []
    · have := List.take_append_drop m (names nm p)
      rw [hd, List.append_nil] at this
      rw [this, join_names nm hp]
      exact e2
    · have := join_app _ _ hne hd
      rw [List.take_append_drop, join_names nm hp] at this
      have := congrArg List.length this
      rw [List.length_append] at this
      omega
  · rw [List.length_take, e1]
    omega
theorem dir_take (hs : ∀ x, nm x = true → (47 : UInt8) ∉ x) {p : List UInt8} {m : Nat} (h1 : 1 ≤ m) (hm : m ≤ (names nm p).length) : dirP nm (joinB ((names nm p).take m)) = joinB ((names nm p).take (m - 1)) := by
  unfold dirP
  rw [names_take hs h1 hm, List.dropLast_eq_take, List.length_take, List.take_take]
  congr 2
  omega
theorem join_take_ne (h0 : nm [] = false) {p : List UInt8} {m : Nat} (h1 : 1 ≤ m) (hm : m ≤ (names nm p).length) (hs : ∀ x, nm x = true → (47 : UInt8) ∉ x) : joinB ((names nm p).take m) ≠ [] := by
  intro e
  have := names_take hs h1 hm
  rw [e] at this
  have e0 : names nm [] = [] := by simp [names, pieces, h0]
  rw [e0] at this
  have := congrArg List.length this
  rw [List.length_take, List.length_nil] at this
  omega
/-- The paths within which it lies, the longest first: n of them. -/
def downs (l : List (List UInt8)) (n : Nat) : List (List UInt8) := (List.range n).map fun i => joinB (l.take (l.length - 1 - i))
theorem downs_succ (l : List (List UInt8)) (n : Nat) : downs l (n + 1) = downs l n ++ [joinB (l.take (l.length - 1 - n))] := by
  unfold downs
  rw [List.range_succ, List.map_append]
  rfl
theorem downs_len (l : List (List UInt8)) (n : Nat) : (downs l n).length = n := by simp [downs]
theorem downs_rev (p : List UInt8) : (downs (names nm p) ((names nm p).length - 1)).reverse = upsP nm p := by
  unfold downs upsP
  generalize names nm p = l
  apply List.ext_getElem
  · simp
  · intro i h1 h2
    simp only [List.length_reverse, List.length_map, List.length_range] at h1
    rw [List.getElem_reverse, List.getElem_map, List.getElem_map, List.getElem_range, List.getElem_range, List.length_map, List.length_range, show l.length - 1 - (l.length - 1 - 1 - i) = i + 1 by omega]
theorem dir_is (p : List UInt8) : dirP nm p = joinB ((names nm p).take ((names nm p).length - 1)) := by
  unfold dirP
  rw [List.dropLast_eq_take]

end
/-- Lists of texts, held against each other: below 0, 0, above 0. -/
def cmpL : List (List UInt8) → List (List UInt8) → Int
  | [], [] => 0
  | [], _ :: _ => -1
  | _ :: _, [] => 1
  | x :: a, y :: b => if x = y then cmpL a b else if x < y then -1 else 1
theorem cmpL_lt : ∀ (a b : List (List UInt8)), cmpL a b < 0 ↔ lessL a b = true
  | [], [] => by simp [cmpL, lessL]
  | [], _ :: _ => by simp [cmpL, lessL]
  | _ :: _, [] => by simp [cmpL, lessL]
  | x :: a, y :: b => by
    rw [cmpL, lessL]
    by_cases h : x = y
    · rw [if_pos h, if_pos h]; exact cmpL_lt a b
    · rw [if_neg h, if_neg h]
      by_cases k : x < y <;> simp [k]
theorem cmpL_eq : ∀ (a b : List (List UInt8)), cmpL a b = 0 ↔ a = b
  | [], [] => by simp [cmpL]
  | [], _ :: _ => by simp [cmpL]
  | _ :: _, [] => by simp [cmpL]
  | x :: a, y :: b => by
    rw [cmpL]
    by_cases h : x = y
    · rw [if_pos h, cmpL_eq a b]; simp [h]
    · rw [if_neg h]
      by_cases k : x < y <;> simp [k, h]
theorem cmpL_step {a b : List (List UInt8)} {i : Nat} (ha : i < a.length) (hb : i < b.length) : cmpL (a.drop i) (b.drop i) = if a[i] = b[i] then cmpL (a.drop (i + 1)) (b.drop (i + 1)) else if a[i] < b[i] then -1 else 1 := by
  rw [List.drop_eq_getElem_cons ha, List.drop_eq_getElem_cons hb, cmpL]
section
variable (nm : List UInt8 → Bool)
/-- First by names, then by bytes. -/
theorem less_or (a b : List UInt8) (c : Int) (hc : c < 0 ↔ a < b) : lessP nm a b = decide ((if cmpL (names nm a) (names nm b) = 0 then c else cmpL (names nm a) (names nm b)) < 0) := by
  rw [Bool.eq_iff_iff, decide_eq_true_eq]
  by_cases h : cmpL (names nm a) (names nm b) = 0
  · rw [if_pos h, hc]
    have e := (cmpL_eq _ _).1 h
    unfold lessP
    by_cases ha : names nm a = []
    · rw [if_pos ⟨ha, by rw [← e]; exact ha⟩, decide_eq_true_eq]
    · rw [if_neg (fun k => ha k.1), e, lessL_irrefl]
      have := names_inj nm e ha
      subst this
      simp [List.lt_irrefl]
  · rw [if_neg h, cmpL_lt]
    unfold lessP
    rw [if_neg]
    rintro ⟨k1, k2⟩
    rw [k1, k2] at h
    exact h rfl
end
end Go.Proofs.YtknommnlkdlkdaaGreatDoor
