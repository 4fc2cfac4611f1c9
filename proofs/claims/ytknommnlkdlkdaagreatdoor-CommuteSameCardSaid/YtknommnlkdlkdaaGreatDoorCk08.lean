/- Package commute's clearOf and its closures, apart. The statements' Light of layer 3 (other layers call it too). The reference's May and Same of layer 4; the statements' Light of hunks. The reference's Same of layer 4; the statements' Light of hunks. -/
import Derived.Test.YtknommnlkdlkdaaGreatDoorCk06
import Derived.Test.YtknommnlkdlkdaaGreatDoorCk07
import Derived.Laws.EntriesVeiled
import Derived.Test.YtknommnlkdlkdaaGreatDoorCk01
import Derived.WalkKit
import Derived.Handy
import Derived.Lib.Hide
import Derived.Test.YtknommnlkdlkdaaGreatDoorCk04
import Derived.Test.YtknommnlkdlkdaaGreatDoorCk02
namespace Go.Proofs.YtknommnlkdlkdaaGreatDoor
open Go.RowKit
set_option linter.unusedVariables false

/-- What meets knows: where it lies. -/
structure MeetAt (w : World) (B1 B2 B3 : Nat) (own : List (List UInt8)) (d : Bool) (p : ByteArray) : Prop where
  own : ∃ A c, w.cell? ⟨B1, 0, none⟩ = some (.slice A own.length c) ∧ Strs w w.heap.size A (toBs own)
  dir : w.cell? ⟨B2, 0, none⟩ = some (.bool d)
  path : w.cell? ⟨B3, 1, none⟩ = some (.string p)
theorem MeetAt.on {w w' : World} {B1 B2 B3 : Nat} {own : List (List UInt8)} {d : Bool} {p : ByteArray} (h : MeetAt w B1 B2 B3 own d p) (hb : Below w.heap.size w w') : MeetAt w' B1 B2 B3 own d p := by
  obtain ⟨⟨A, c, h1, h2⟩, h3, h4⟩ := h
  exact ⟨⟨A, c, cell_on h1 hb, h2.on hb⟩, cell_on h3 hb, cell_on h4 hb⟩
def meetB (own : List (List UInt8)) (d : Bool) (p : ByteArray) (o : List UInt8) : Bool := decide (o ∈ own) || (d && withinP nameP o p.data.toList)
set_option maxHeartbeats 2000000 in
set_option maxRecDepth 100000 in
theorem meets_any (B1 B2 B3 : Nat) (own : List (List UInt8)) (d : Bool) (p o : ByteArray) (w : World) (h : MeetAt w B1 B2 B3 own d p) (hn : own.length ≤ 1000000) (hp : p.size ≤ 1000000) (ho : o.size ≤ 1000000) :
    Calls Tryz.prog 77 #[.string o, .pointer (some ⟨B1, 0, none⟩), .pointer (some ⟨B2, 0, none⟩), .pointer (some ⟨B3, 0, none⟩)] w fun e w' => e = .returned (.bool (meetB own d p o.data.toList)) ∧ Below w.heap.size w w' := by
  obtain ⟨⟨A, c, h1, h2⟩, h3, h4⟩ := h
  have CC := contains_any A (toBs own) c o w h2 (by rw [toBs_len]; exact hn)
  rw [toBs_len, lists_toBs] at CC
  have CW := Lib.hid (pwithin_any o p w ho hp)
  unfold meetB
  generalize decide (o.data.toList ∈ own) = a at *
  generalize withinP nameP o.data.toList p.data.toList = b at *
  have CC := Lib.hid CC
  generalize own.length = m at *
  clear h2 hn hp ho
  cases a
  · cases d
    · go_enter Tryz.func77, Tryz.ntmps77
      go_wp2_with fail
      refine CC.out.mono ?_
      rintro e w1 ⟨rfl, rfl⟩
      go_wp2
      go_ret
      exact ⟨rfl, Below.refl _ _⟩
    · go_enter Tryz.func77, Tryz.ntmps77
      go_wp2_with fail
      refine CC.out.mono ?_
      rintro e w1 ⟨rfl, rfl⟩
      go_wp2_with fail
      refine CW.out.mono ?_
      rintro e w2 ⟨rfl, hb⟩
      have HB := Lib.hid hb
      clear hb
      go_wp2
      go_ret
      exact ⟨rfl, HB.out⟩
  · go_enter Tryz.func77, Tryz.ntmps77
    go_wp2_with fail
    refine CC.out.mono ?_
    rintro e w1 ⟨rfl, rfl⟩
    go_wp2
    go_ret
    exact ⟨rfl, Below.refl _ _⟩
theorem any_no {f : List UInt8 → Bool} {ls : List (List UInt8)} (h : ∀ j (hj : j < ls.length), f ls[j] = false) : ls.any f = false := by
  rw [List.any_eq_false]
  intro x hx
  obtain ⟨j, hj, rfl⟩ := List.getElem_of_mem hx
  simp [h j hj]
set_option maxHeartbeats 2000000 in
set_option maxRecDepth 100000 in
theorem indexmeet_any (B1 B2 B3 : Nat) (own : List (List UInt8)) (d : Bool) (p : ByteArray) (A : Option Addr) (ls : List (List UInt8)) (cap : Nat) (w : World) (h : MeetAt w B1 B2 B3 own d p) (hn : own.length ≤ 1000000) (hp : p.size ≤ 1000000) (hs : Strs w w.heap.size A (toBs ls)) (hl : ls.length ≤ 1000000) (hz : ∀ x ∈ ls, x.length ≤ 1000000) :
    Calls Tryz.prog 107 #[.slice A ls.length cap, .func (.func 77) #[] #[.pointer (some ⟨B1, 0, none⟩), .pointer (some ⟨B2, 0, none⟩), .pointer (some ⟨B3, 0, none⟩)]] w fun e w' => ∃ r : Int, e = .returned (.int .i64 r) ∧ decide (0 ≤ r) = ls.any (meetB own d p) ∧ Below w.heap.size w w' := by
  have HM := Lib.hid h
  have HS := Lib.hid hs
  have HZ := Lib.hid hz
  clear h hs hz
  go_enter Tryz.func107, Tryz.ntmps107
  go_wp2
  go_loopw [8] (fun i wr => ∃ k : Nat, k ≤ ls.length ∧ i = .int .i64 (k : Int) ∧ Hid (∀ j (hj : j < ls.length), j < k → meetB own d p ls[j] = false) ∧ Below w.heap.size w wr) (fun i _ => ls.length - (intOf i).toNat)
  case atStart => exact ⟨0, Nat.zero_le _, rfl, fun j _ h => absurd h (by omega), Below.refl _ _⟩
  case round =>
    obtain ⟨k, hk, rfl, hall, hb⟩ := hrel
    by_cases hlt : k < ls.length
    · obtain ⟨g, off, rfl, hg, hc⟩ := (HS.out.on hb).at_ (k := k) (by rw [toBs_len]; exact hlt)
      have e1 : (toBs ls)[k]'(by rw [toBs_len]; exact hlt) = toB ls[k] := by simp [toBs]
      rw [e1] at hc
      have hz : (toB ls[k]).size ≤ 1000000 := by
        rw [toB_size]
        exact HZ.out ls[k] (List.getElem_mem _)
      have C := Lib.hid (meets_any B1 B2 B3 own d p (toB ls[k]) wr (HM.out.on hb) hn hp hz)
      rw [of_toB] at C
      cases hd : meetB own d p ls[k] with
      | true =>
        have hfin : Hid (ls.any (meetB own d p) = true) := List.any_eq_true.2 ⟨ls[k], List.getElem_mem _, hd⟩
        rw [hd] at C
        have HB := Lib.hid hb
        clear hall hd e1 hz hb
        generalize toB ls[k] = z at *
        go_wp2_with fail
        refine C.out.mono ?_
        rintro e w1 ⟨rfl, hb1⟩
        have HB2 := Lib.hid (HB.out.trans (hb1.mono HB.out.size))
        clear hb1
        go_wp2
        go_ret
        exact ⟨k, rfl, by rw [hfin.out]; simp, HB2.out⟩
      | false =>
        have hyes : Hid (∀ j (hj : j < ls.length), j < k + 1 → meetB own d p ls[j] = false) := by
          intro j hj hjk
          by_cases hjk2 : j = k
          · subst hjk2; exact hd
          · exact hall.out j hj (by omega)
        rw [hd] at C
        have HB := Lib.hid hb
        clear hall hd e1 hz hb
        generalize toB ls[k] = z at *
        go_wp2_with fail
        refine C.out.mono ?_
        rintro e w1 ⟨rfl, hb1⟩
        have HB2 := Lib.hid (HB.out.trans (hb1.mono HB.out.size))
        clear hb1
        go_wp2
        go_roundw
        case rel => exact ⟨k + 1, by omega, by go_num, hyes, HB2.out⟩
        case measure => simp [intOf]; omega
    · obtain rfl : k = ls.length := by omega
      have hfin : Hid (ls.any (meetB own d p) = false) := any_no fun j hj => hall.out j hj hj
      clear hall
      go_wp2
      go_ret
      exact ⟨-1, rfl, by rw [hfin.out]; rfl, hb⟩
theorem hasmeet_any (B1 B2 B3 : Nat) (own : List (List UInt8)) (d : Bool) (p : ByteArray) (A : Option Addr) (ls : List (List UInt8)) (cap : Nat) (w : World) (h : MeetAt w B1 B2 B3 own d p) (hn : own.length ≤ 1000000) (hp : p.size ≤ 1000000) (hs : Strs w w.heap.size A (toBs ls)) (hl : ls.length ≤ 1000000) (hz : ∀ x ∈ ls, x.length ≤ 1000000) :
    Calls Tryz.prog 81 #[.slice A ls.length cap, .func (.func 77) #[] #[.pointer (some ⟨B1, 0, none⟩), .pointer (some ⟨B2, 0, none⟩), .pointer (some ⟨B3, 0, none⟩)]] w fun e w' => e = .returned (.bool (ls.any (meetB own d p))) ∧ Below w.heap.size w w' := by
  have C := Lib.hid (indexmeet_any B1 B2 B3 own d p A ls cap w h hn hp hs hl hz)
  clear h hs hz
  go_enter Tryz.func81, Tryz.ntmps81
  go_wp2_with fail
  refine C.out.mono ?_
  rintro e w1 ⟨r, rfl, hr, hb⟩
  have HR := Lib.hid hr
  clear hr C
  go_wp2
  go_ret
  rw [← HR.out]
  exact ⟨rfl, hb⟩
/-- What clearOf's answer knows. -/
def ClearAt (w : World) (B5 : Nat) (own : List (List UInt8)) (d : Bool) (p : ByteArray) : Prop := ∃ B1 B2 B3, w.cell? ⟨B5, 0, none⟩ = some (.func (.func 77) #[] #[.pointer (some ⟨B1, 0, none⟩), .pointer (some ⟨B2, 0, none⟩), .pointer (some ⟨B3, 0, none⟩)]) ∧ MeetAt w B1 B2 B3 own d p
theorem ClearAt.on {w w' : World} {B5 : Nat} {own : List (List UInt8)} {d : Bool} {p : ByteArray} (h : ClearAt w B5 own d p) (hb : Below w.heap.size w w') : ClearAt w' B5 own d p := by
  obtain ⟨B1, B2, B3, h1, h2⟩ := h
  exact ⟨B1, B2, B3, cell_on h1 hb, h2.on hb⟩
set_option maxRecDepth 100000 in
theorem clear_any (B5 : Nat) (own : List (List UInt8)) (d : Bool) (p : ByteArray) (A : Option Addr) (ls : List (List UInt8)) (cap : Nat) (w : World) (h : ClearAt w B5 own d p) (hn : own.length ≤ 1000000) (hp : p.size ≤ 1000000) (hs : Strs w w.heap.size A (toBs ls)) (hl : ls.length ≤ 1000000) (hz : ∀ x ∈ ls, x.length ≤ 1000000) :
    Calls Tryz.prog 80 #[.slice A ls.length cap, .pointer (some ⟨B5, 0, none⟩)] w fun e w' => e = .returned (.bool (!(ls.any (meetB own d p)))) ∧ Below w.heap.size w w' := by
  obtain ⟨B1, B2, B3, h1, h2⟩ := h
  have C := Lib.hid (hasmeet_any B1 B2 B3 own d p A ls cap w h2 hn hp hs hl hz)
  generalize ls.any (meetB own d p) = r at *
  clear h2 hs hz
  go_enter Tryz.func80, Tryz.ntmps80
  go_wp2_with fail
  refine C.out.mono ?_
  rintro e w1 ⟨rfl, hb⟩
  have HB := Lib.hid hb
  clear hb C
  go_wp2
  go_ret
  exact ⟨rfl, HB.out⟩
def dirB (k : Int) : Bool := decide (k = 1 ∨ k = 2)
theorem clear_made (w1 : World) (G : Nat) (own : List (List UInt8)) (A : Option Addr) (c : Nat) (d : Bool) (p : ByteArray) (hs : Strs w1 w1.heap.size A (toBs own)) (hp : w1.cell? ⟨G, 1, none⟩ = some (.string p)) :
    ClearAt (((w1.alloc (.cells #[.slice A own.length c] 23)).alloc (.cells #[.bool d] 4)).alloc (.cells #[.func (.func 77) #[] #[.pointer (some ⟨w1.heap.size, 0, none⟩), .pointer (some ⟨w1.heap.size + 1, 0, none⟩), .pointer (some ⟨G, 0, none⟩)]] 63)) (w1.heap.size + 1 + 1) own d p ∧
    Below w1.heap.size w1 (((w1.alloc (.cells #[.slice A own.length c] 23)).alloc (.cells #[.bool d] 4)).alloc (.cells #[.func (.func 77) #[] #[.pointer (some ⟨w1.heap.size, 0, none⟩), .pointer (some ⟨w1.heap.size + 1, 0, none⟩), .pointer (some ⟨G, 0, none⟩)]] 63)) := by
  have b1 : Below w1.heap.size w1 (w1.alloc (.cells #[.slice A own.length c] 23)) := (Below.refl _ _).alloc (Nat.le_refl _) _
  have c1 := World.cell?_alloc_new w1 #[.slice A own.length c] 23 0
  have s1 := World.size_alloc w1 (.cells #[.slice A own.length c] 23)
  generalize w1.alloc (.cells #[.slice A own.length c] 23) = w2 at *
  have b2 : Below w2.heap.size w2 (w2.alloc (.cells #[.bool d] 4)) := (Below.refl _ _).alloc (Nat.le_refl _) _
  have c2 := World.cell?_alloc_new w2 #[.bool d] 4 0
  have s2 := World.size_alloc w2 (.cells #[.bool d] 4)
  generalize w2.alloc (.cells #[.bool d] 4) = w3 at *
  have b3 : Below w3.heap.size w3 (w3.alloc (.cells #[.func (.func 77) #[] #[.pointer (some ⟨w1.heap.size, 0, none⟩), .pointer (some ⟨w1.heap.size + 1, 0, none⟩), .pointer (some ⟨G, 0, none⟩)]] 63)) := (Below.refl _ _).alloc (Nat.le_refl _) _
  have c3 := World.cell?_alloc_new w3 #[.func (.func 77) #[] #[.pointer (some ⟨w1.heap.size, 0, none⟩), .pointer (some ⟨w1.heap.size + 1, 0, none⟩), .pointer (some ⟨G, 0, none⟩)]] 63 0
  generalize w3.alloc (.cells #[.func (.func 77) #[] #[.pointer (some ⟨w1.heap.size, 0, none⟩), .pointer (some ⟨w1.heap.size + 1, 0, none⟩), .pointer (some ⟨G, 0, none⟩)]] 63) = w4 at *
  rw [s2, s1] at c3
  rw [s1] at c2
  have b23 := b2.trans (b3.mono b2.size)
  have b13 := b1.trans (b23.mono b1.size)
  exact ⟨⟨w1.heap.size, w1.heap.size + 1, G, c3, ⟨⟨A, c, cell_on c1 b23, hs.on b13⟩, cell_on c2 b3, cell_on hp b13⟩⟩, b13⟩

set_option maxHeartbeats 4000000 in
set_option maxRecDepth 100000 in
theorem clearof_any (x : Pm) (w : World) : Calls Tryz.prog 46 #[x.val] w fun e w' => ∃ B5, e = .returned (.func (.func 80) #[] #[.pointer (some ⟨B5, 0, none⟩)]) ∧ Hid (ClearAt w' B5 (touches x.key) (dirB x.kind) x.p) ∧ Below w.heap.size w w' := by
  have CT := fun W => ctouched_any x W
  generalize touches x.key = own at *
  obtain ⟨kind, p, q, at_, a1, c1, old, a2, c2, new⟩ := x
  unfold Pm.val at CT ⊢
  simp only [] at CT ⊢
  obtain ⟨hal, hx⟩ := box1 w ⟨kind, p, q, at_, a1, c1, old, a2, c2, new⟩
  have e0 : (w.alloc (.cells (Pm.cells ⟨kind, p, q, at_, a1, c1, old, a2, c2, new⟩).toArray 25)) = (w.alloc (.cells #[.int .i64 kind, .string p, .string q, .int .i64 at_, .slice a1 old.length c1, .slice a2 new.length c2] 25)) := rfl
  rw [e0] at hal hx
  have HX := Lib.hid hx
  have HA := Lib.hid hal
  have CT := Lib.hid (CT (w.alloc (.cells #[.int .i64 kind, .string p, .string q, .int .i64 at_, .slice a1 old.length c1, .slice a2 new.length c2] 25)))
  clear hx hal e0
  by_cases h1 : kind = 1
  · have hd : dirB kind = true := by simp [dirB, h1]
    rw [hd]
    have k1 : (kind == 1) = true := by simpa using h1
    clear hd h1
    go_enter Tryz.func46, Tryz.ntmps46
    go_wp2_with fail
    generalize (w.alloc (.cells #[.int .i64 kind, .string p, .string q, .int .i64 at_, .slice a1 old.length c1, .slice a2 new.length c2] 25)) = wa at *
    refine CT.out.mono ?_
    rintro e w1 ⟨A, c, rfl, hnil, hs, hb⟩
    have hx1 := HX.out.on hb
    have b0 := cell_on hx1.c0 ((Below.refl w1.heap.size w1).alloc (Nat.le_refl _) (.cells #[.slice A own.length c] 23))
    have hm := clear_made w1 w.heap.size own A c true p hs hx1.c1
    have HM := Lib.hid hm.1
    have HB := Lib.hid ((HA.out.trans (hb.mono HA.out.size)).trans (hm.2.mono (HA.out.trans (hb.mono HA.out.size)).size))
    clear hm hs hb hx1 CT HX HA hnil
    go_wp2
    go_ret
    exact ⟨_, rfl, HM, HB.out⟩
  · by_cases h2 : kind = 2
    · have hd : dirB kind = true := by simp [dirB, h2]
      rw [hd]
      have k1 : (kind == 1) = false := by simpa using h1
      have k2 : (kind == 2) = true := by simpa using h2
      clear hd h1 h2
      go_enter Tryz.func46, Tryz.ntmps46
      go_wp2_with fail
      generalize (w.alloc (.cells #[.int .i64 kind, .string p, .string q, .int .i64 at_, .slice a1 old.length c1, .slice a2 new.length c2] 25)) = wa at *
      refine CT.out.mono ?_
      rintro e w1 ⟨A, c, rfl, hnil, hs, hb⟩
      have hx1 := HX.out.on hb
      have b0 := cell_on hx1.c0 ((Below.refl w1.heap.size w1).alloc (Nat.le_refl _) (.cells #[.slice A own.length c] 23))
      have hm := clear_made w1 w.heap.size own A c true p hs hx1.c1
      have HM := Lib.hid hm.1
      have HB := Lib.hid ((HA.out.trans (hb.mono HA.out.size)).trans (hm.2.mono (HA.out.trans (hb.mono HA.out.size)).size))
      clear hm hs hb hx1 CT HX HA hnil
      go_wp2
      go_ret
      exact ⟨_, rfl, HM, HB.out⟩
    · have hd : dirB kind = false := by simp [dirB, h1, h2]
      rw [hd]
      have k1 : (kind == 1) = false := by simpa using h1
      have k2 : (kind == 2) = false := by simpa using h2
      clear hd h1 h2
      go_enter Tryz.func46, Tryz.ntmps46
      go_wp2_with fail
      generalize (w.alloc (.cells #[.int .i64 kind, .string p, .string q, .int .i64 at_, .slice a1 old.length c1, .slice a2 new.length c2] 25)) = wa at *
      refine CT.out.mono ?_
      rintro e w1 ⟨A, c, rfl, hnil, hs, hb⟩
      have hx1 := HX.out.on hb
      have b0 := cell_on hx1.c0 ((Below.refl w1.heap.size w1).alloc (Nat.le_refl _) (.cells #[.slice A own.length c] 23))
      have hm := clear_made w1 w.heap.size own A c false p hs hx1.c1
      have HM := Lib.hid hm.1
      have HB := Lib.hid ((HA.out.trans (hb.mono HA.out.size)).trans (hm.2.mono (HA.out.trans (hb.mono HA.out.size)).size))
      clear hm hs hb hx1 CT HX HA hnil
      go_wp2
      go_ret
      exact ⟨_, rfl, HM, HB.out⟩
theorem six_six {w : World} {g h : Nat} {x y : Pm} (k : PrimAt w g x) (l : PrimAt w h y) : w.cell? ⟨g, 0, none⟩ = some (.int .i64 x.kind) ∧ w.cell? ⟨g, 1, none⟩ = some (.string x.p) ∧ w.cell? ⟨g, 2, none⟩ = some (.string x.dst) ∧ w.cell? ⟨g, 3, none⟩ = some (.int .i64 x.at_) ∧ w.cell? ⟨g, 4, none⟩ = some (.slice x.a1 x.old.length x.c1) ∧ w.cell? ⟨g, 5, none⟩ = some (.slice x.a2 x.new.length x.c2) ∧
    w.cell? ⟨h, 0, none⟩ = some (.int .i64 y.kind) ∧ w.cell? ⟨h, 1, none⟩ = some (.string y.p) ∧ w.cell? ⟨h, 2, none⟩ = some (.string y.dst) ∧ w.cell? ⟨h, 3, none⟩ = some (.int .i64 y.at_) ∧ w.cell? ⟨h, 4, none⟩ = some (.slice y.a1 y.old.length y.c1) ∧ w.cell? ⟨h, 5, none⟩ = some (.slice y.a2 y.new.length y.c2) :=
  ⟨k.c0, k.c1, k.c2, k.c3, k.c4, k.c5, l.c0, l.c1, l.c2, l.c3, l.c4, l.c5⟩
theorem PrimAt.draw {w : World} {g : Nat} {x : Pm} (k : PrimAt w g x) : PrimAt w.drew g x := k
/-- Are two steps apart, as package commute looks. -/
def clearB (p q : Pk) : Bool := !((touches q).any (meetB (touches p) (dirB p.kind) (toB p.path))) && !((touches p).any (meetB (touches q) (dirB q.kind) (toB q.path)))
theorem touches_len (p : Pk) : (touches p).length ≤ 1000000 := by unfold touches; split <;> simp
theorem touches_each {x : Pm} (hp : x.p.size ≤ 1000000) (hq : x.dst.size ≤ 1000000) : ∀ l ∈ touches x.key, l.length ≤ 1000000 := by
  intro l hl
  unfold touches at hl
  split at hl
  · simp only [List.mem_cons, List.not_mem_nil, or_false] at hl
    rcases hl with rfl | rfl
    · exact hp
    · exact hq
  · simp only [List.mem_cons, List.not_mem_nil, or_false] at hl
    subst hl
    exact hp
set_option maxHeartbeats 8000000 in
set_option maxRecDepth 100000 in
theorem capart_any (x y : Pm) (w : World) (hp1 : x.p.size ≤ 1000000) (hq1 : x.dst.size ≤ 1000000) (hp2 : y.p.size ≤ 1000000) (hq2 : y.dst.size ≤ 1000000) (r : Bool) (hr : clearB x.key y.key = r) :
    Calls Tryz.prog 26 #[x.val, y.val] w fun e w' => e = .returned (.bool r) ∧ Below w.heap.size w w' := by
  have C1 := Lib.hid (fun W => clearof_any x W)
  have C2 := Lib.hid (fun W => clearof_any y W)
  have T1 := Lib.hid (fun W => ctouched_any x W)
  have T2 := Lib.hid (fun W => ctouched_any y W)
  have HQ1 := Lib.hid (fun (B5 : Nat) (A : Option Addr) (cap : Nat) W (h : ClearAt W B5 (touches x.key) (dirB x.kind) x.p) (hs : Strs W W.heap.size A (toBs (touches y.key))) => clear_any B5 (touches x.key) (dirB x.kind) x.p A (touches y.key) cap W h (touches_len _) hp1 hs (touches_len _) (touches_each hp2 hq2))
  have HQ2 := Lib.hid (fun (B5 : Nat) (A : Option Addr) (cap : Nat) W (h : ClearAt W B5 (touches y.key) (dirB y.kind) y.p) (hs : Strs W W.heap.size A (toBs (touches x.key))) => clear_any B5 (touches y.key) (dirB y.kind) y.p A (touches x.key) cap W h (touches_len _) hp2 hs (touches_len _) (touches_each hp1 hq1))
  have hk1 : clearB x.key y.key = (!((touches y.key).any (meetB (touches x.key) (dirB x.kind) x.p)) && !((touches x.key).any (meetB (touches y.key) (dirB y.kind) y.p))) := by
    unfold clearB
    simp only [Pm.key, toB_of]
  rw [hk1] at hr
  generalize (touches y.key).any (meetB (touches x.key) (dirB x.kind) x.p) = r1 at *
  generalize (touches x.key).any (meetB (touches y.key) (dirB y.kind) y.p) = r2 at *
  generalize touches x.key = tx at *
  generalize touches y.key = ty at *
  obtain ⟨kind, p, q, at_, a1, c1, old, a2, c2, new⟩ := x
  obtain ⟨kind2, p2, q2, at2, a3, c3, old2, a4, c4, new2⟩ := y
  unfold Pm.val at C1 C2 T1 T2 ⊢
  simp only [] at C1 C2 T1 T2 HQ1 HQ2 ⊢
  obtain ⟨hal, hx, hy⟩ := box2 w ⟨kind, p, q, at_, a1, c1, old, a2, c2, new⟩ ⟨kind2, p2, q2, at2, a3, c3, old2, a4, c4, new2⟩
  have e0 : ((w.alloc (.cells (Pm.cells ⟨kind, p, q, at_, a1, c1, old, a2, c2, new⟩).toArray 25)).alloc (.cells (Pm.cells ⟨kind2, p2, q2, at2, a3, c3, old2, a4, c4, new2⟩).toArray 25)) = ((w.alloc (.cells #[.int .i64 kind, .string p, .string q, .int .i64 at_, .slice a1 old.length c1, .slice a2 new.length c2] 25)).alloc (.cells #[.int .i64 kind2, .string p2, .string q2, .int .i64 at2, .slice a3 old2.length c3, .slice a4 new2.length c4] 25)) := rfl
  rw [e0] at hal hx hy
  have HX := Lib.hid hx
  have HY := Lib.hid hy
  have HA := Lib.hid hal
  have HR := Lib.hid hr
  clear hal hx hy e0 hr hk1 hp1 hq1 hp2 hq2
  go_enter Tryz.func26, Tryz.ntmps26
  go_wp2_with fail
  generalize ((w.alloc (.cells #[.int .i64 kind, .string p, .string q, .int .i64 at_, .slice a1 old.length c1, .slice a2 new.length c2] 25)).alloc (.cells #[.int .i64 kind2, .string p2, .string q2, .int .i64 at2, .slice a3 old2.length c3, .slice a4 new2.length c4] 25)) = wa at *
  have HDR : Hid (Below wa.heap.size wa wa.drew) := (Below.refl _ _).drew
  have S0 := Lib.hid (six_six (HX.out.on HDR.out) (HY.out.on HDR.out))
  go_region_held3 (fun w' => w'.cell? ⟨w.heap.size, 0, none⟩ = some (.int .i64 kind) ∧ w'.cell? ⟨w.heap.size, 1, none⟩ = some (.string p) ∧ w'.cell? ⟨w.heap.size, 2, none⟩ = some (.string q) ∧ w'.cell? ⟨w.heap.size, 3, none⟩ = some (.int .i64 at_) ∧ w'.cell? ⟨w.heap.size, 4, none⟩ = some (.slice a1 old.length c1) ∧ w'.cell? ⟨w.heap.size, 5, none⟩ = some (.slice a2 new.length c2) ∧ w'.cell? ⟨w.heap.size + 1, 0, none⟩ = some (.int .i64 kind2) ∧ w'.cell? ⟨w.heap.size + 1, 1, none⟩ = some (.string p2) ∧ w'.cell? ⟨w.heap.size + 1, 2, none⟩ = some (.string q2) ∧ w'.cell? ⟨w.heap.size + 1, 3, none⟩ = some (.int .i64 at2) ∧ w'.cell? ⟨w.heap.size + 1, 4, none⟩ = some (.slice a3 old2.length c3) ∧ w'.cell? ⟨w.heap.size + 1, 5, none⟩ = some (.slice a4 new2.length c4)) (first
    | with_reducible exact S0.out
    | with_reducible exact S7.out
    | with_reducible exact S8.out
    | (go_keep; done)) (first
    | (go_at_call 46; with_reducible refine (C1.out _).mono ?_; rintro e w7 ⟨B7, rfl, hc7, hb7⟩
       have X7 := Lib.hid (HDR.out.trans (hb7.mono HDR.out.size))
       have S7 := Lib.hid (six_six (HX.out.on X7.out) (HY.out.on X7.out)))
    | (go_at_call 46; with_reducible refine (C2.out _).mono ?_; rintro e w8 ⟨B8, rfl, hc8, hb8⟩
       have X8 := Lib.hid (X7.out.trans (hb8.mono X7.out.size))
       have S8 := Lib.hid (six_six (HX.out.on X8.out) (HY.out.on X8.out))))
  have K7 := Lib.hid (hc7.out.on hb8)
  have K8 := Lib.hid hc8.out
  obtain ⟨c0, c1', c2', c3', c4', c5, d0, d1, d2, d3, d4, d5⟩ := S8.out
  clear S0 S7 S8 hc7 hc8 hb7 hb8 X7 C1 C2
  go_wp2_with fail
  refine (T2.out _).mono ?_
  rintro e w9 ⟨A9, k9, rfl, hn9, hs9, hb9⟩
  have X9 := Lib.hid (X8.out.trans (hb9.mono X8.out.size))
  have S9 := Lib.hid hs9
  have K79 := Lib.hid (K7.out.on hb9)
  have K89 := Lib.hid (K8.out.on hb9)
  clear c0 c1' c2' c3' c4' c5 d0 d1 d2 d3 d4 d5 hb9 hs9 hn9 K7 K8
  go_wp2_with fail
  refine (HQ1.out B7 A9 k9 w9 K79.out S9.out).mono ?_
  rintro e w10 ⟨rfl, hb10⟩
  have X10 := Lib.hid (X9.out.trans (hb10.mono X9.out.size))
  have K810 := Lib.hid (K89.out.on hb10)
  clear hb10 S9 K79 K89 HQ1 T2
  cases r1
  · have hx10 := HX.out.on X10.out
    have c0 := hx10.c0
    have c1' := hx10.c1
    have c2' := hx10.c2
    have c3' := hx10.c3
    have c4' := hx10.c4
    have c5 := hx10.c5
    clear hx10
    go_wp2_with fail
    refine (T1.out _).mono ?_
    rintro e w11 ⟨A11, k11, rfl, hn11, hs11, hb11⟩
    have X11 := Lib.hid (X10.out.trans (hb11.mono X10.out.size))
    have S11 := Lib.hid hs11
    have K811 := Lib.hid (K810.out.on hb11)
    clear c0 c1' c2' c3' c4' c5 hb11 hs11 hn11 K810
    go_wp2_with fail
    refine (HQ2.out B8 A11 k11 w11 K811.out S11.out).mono ?_
    rintro e w12 ⟨rfl, hb12⟩
    have X12 := Lib.hid (HA.out.trans ((X11.out.trans (hb12.mono X11.out.size)).mono HA.out.size))
    clear hb12
    go_wp2
    go_ret
    exact ⟨by rw [← HR.out]; rfl, X12.out⟩
  · have X12 := Lib.hid (HA.out.trans (X10.out.mono HA.out.size))
    go_wp2
    go_ret
    exact ⟨by rw [← HR.out]; rfl, X12.out⟩
theorem within_in {x d : List UInt8} (hx : names nameP x ≠ []) (hd : names nameP d ≠ []) : withinP nameP x d = inDir x d := by
  unfold withinP inDir
  simp [hx, hd]
/-- Package commute looks as the document says. -/
theorem clear_apart {p q : Pk} (hp : ckP p = 0) (hq : ckP q = 0) : clearB p q = apartP p q := by
  have kp := ck_facts hp
  have kq := ck_facts hq
  have dp : ∀ {p : Pk}, 1 ≤ p.kind → (dirB p.kind = true ↔ p.kind ≤ 2) := fun h => by
    unfold dirB
    rw [decide_eq_true_eq]
    omega
  have tp : ∀ {p : Pk}, p.kind ≤ 2 → touches p = [p.path] := fun h => by
    unfold touches
    rw [if_neg (by omega)]
  rw [Bool.eq_iff_iff, apart_iff]
  unfold clearB meetB
  simp only [Bool.and_eq_true, Bool.not_eq_true', List.any_eq_false, Bool.or_eq_true, decide_eq_true_eq, not_or, Bool.and_eq_true, not_and, of_toB]
  constructor
  · rintro ⟨h1, h2⟩ x hx y hy
    refine ⟨fun e => (h1 y hy).1 (e ▸ hx), fun h => ?_, fun h => ?_⟩
    · have e : x = p.path := by rw [tp h] at hx; simpa using hx
      have := (h1 y hy).2 ((dp kp.1).2 h)
      rw [within_in (touch_names hq hy) kp.2.2.2.2.1] at this
      rw [e]
      simpa using this
    · have e : y = q.path := by rw [tp h] at hy; simpa using hy
      have := (h2 x hx).2 ((dp kq.1).2 h)
      rw [within_in (touch_names hp hx) kq.2.2.2.2.1] at this
      rw [e]
      simpa using this
  · intro h
    refine ⟨fun y hy => ⟨fun hx => (h y hx y hy).1 rfl, fun hd => ?_⟩, fun x hx => ⟨fun hy => (h x hx x hy).1 rfl, fun hd => ?_⟩⟩
    · rw [within_in (touch_names hq hy) kp.2.2.2.2.1]
      have := (h _ (touch_path p) y hy).2.1 ((dp kp.1).1 hd)
      simp [this]
    · rw [within_in (touch_names hp hx) kq.2.2.2.2.1]
      have := (h x hx _ (touch_path q)).2.2 ((dp kq.1).1 hd)
      simp [this]

end Go.Proofs.YtknommnlkdlkdaaGreatDoor
namespace Go.Proofs.YtknommnlkdlkdaaGreatDoor
open Go.RowKit
set_option linter.unusedVariables false

/-- Texts that are not far too many. -/
def light3B (ss : List ByteArray) : Bool := ss.all (fun s => decide (s.size ≤ 300)) && decide (ss.length ≤ 60)
theorem light3B_no {ss : List ByteArray} {k : Nat} (hk : k < ss.length) (h : 300 < ss[k].size) : light3B ss = false := by
  have : ¬ ss.all (fun s => decide (s.size ≤ 300)) = true := by
    rw [List.all_eq_true]
    intro ha
    have := ha ss[k] (List.getElem_mem _)
    simp at this
    omega
  unfold light3B
  rw [Bool.not_eq_true] at this
  rw [this]; simp
theorem light3B_yes {ss : List ByteArray} (h : ∀ j (hj : j < ss.length), ss[j].size ≤ 300) : light3B ss = decide (ss.length ≤ 60) := by
  unfold light3B
  have : ss.all (fun s => decide (s.size ≤ 300)) = true := by
    rw [List.all_eq_true]
    intro s hs
    obtain ⟨j, hj, rfl⟩ := List.getElem_of_mem hs
    simpa using h j hj
  rw [this]; simp
theorem light3B_len {ss : List ByteArray} (h : light3B ss = true) : ss.length ≤ 60 := by
  unfold light3B at h
  simp at h
  exact h.2

set_option maxRecDepth 100000 in
theorem light3_any (A : Option Addr) (ss : List ByteArray) (cap : Nat) (w : World) (hs : Strs w w.heap.size A ss) (hn : ss.length ≤ 9223372036854775807) :
    Calls Tryz.prog 12 #[.slice A ss.length cap] w fun e w' => e = .returned (.bool (light3B ss)) ∧ w = w' := by
  go_enter Tryz.func12, Tryz.ntmps12
  go_wp2
  go_loop [3] (fun i => ∃ k : Nat, k ≤ ss.length ∧ i = .int .i64 (k : Int) ∧ Hid (∀ j (hj : j < ss.length), j < k → ss[j].size ≤ 300)) (fun i => ss.length - (intOf i).toNat)
  case atStart => exact ⟨0, Nat.zero_le _, rfl, fun j _ h => absurd h (by omega)⟩
  case round =>
    obtain ⟨k, hk, rfl, hall⟩ := hrel
    by_cases hlt : k < ss.length
    · obtain ⟨g, off, rfl, hg, hc⟩ := hs.at_ hlt
      have hno := Lib.hid (light3B_no hlt)
      have hyes : Hid (((ss[k].size : Int) ≤ 300) → ∀ j (hj : j < ss.length), j < k + 1 → ss[j].size ≤ 300) := by
        intro h j hj hjk
        by_cases he : j = k
        · subst he; omega
        · exact hall.out j hj (by omega)
      generalize ss[k] = s at *
      clear hs hall
      by_cases h3 : 300 < s.size
      · have hno2 := Lib.hid (hno.out (by omega))
        clear hno hyes
        go_wp2
        go_ret
        rw [hno2.out]
        exact ⟨rfl, rfl⟩
      · have hyes2 := Lib.hid (hyes.out (by omega))
        clear hno hyes
        go_wp2
        go_round
        case rel => exact ⟨k + 1, by omega, by go_num, hyes2⟩
        case measure => simp [intOf]; omega
    · have hk2 : k = ss.length := by omega
      subst hk2
      have hy := Lib.hid (light3B_yes (fun j hj => hall.out j hj hj))
      clear hall
      go_wp2
      go_ret
      rw [hy.out]
      exact ⟨by simp; omega, rfl⟩
end Go.Proofs.YtknommnlkdlkdaaGreatDoor
namespace Go.Proofs.YtknommnlkdlkdaaGreatDoor
open Go.RowKit
set_option linter.unusedVariables false

end Go.Proofs.YtknommnlkdlkdaaGreatDoor
namespace Go.Proofs.YtknommnlkdlkdaaGreatDoor
open Go.RowKit
set_option linter.unusedVariables false

/-- What a hunk says. -/
def Hm.key (h : Hm) : Int × List (List UInt8) × List (List UInt8) := (h.at_, h.old, h.new)
def keys (hs : List Hm) : List (Int × List (List UInt8) × List (List UInt8)) := hs.map Hm.key
/-- Lists of lines that are not far too long. -/
def Small (hs : List Hm) : Prop := hs.length ≤ 1000000 ∧ ∀ h ∈ hs, h.old.length ≤ 1000000 ∧ h.new.length ≤ 1000000
theorem same_qq (A A2 : Option Addr) (la lc : List (List UInt8)) (cap cap2 : Nat) (w : World) (d : Bool) (hd : decide (la = lc) = d) (hs : Strs w w.heap.size A (toBs la)) (ht : Strs w w.heap.size A2 (toBs lc)) (hn : la.length ≤ 1000000) (hn2 : lc.length ≤ 1000000) (n : Nat) :
    Calls Tryz.prog 25 #[.slice A la.length cap, .slice A2 lc.length cap2] (w.drewN n) fun e w' => e = .returned (.bool d) ∧ ∃ m, w' = w.drewN m := by
  have h := same_q A A2 (toBs la) (toBs lc) cap cap2 (w.drewN n) hs ht (by rw [toBs_len]; omega) (by rw [toBs_len]; omega)
  rw [toBs_len, toBs_len, show decide (toBs la = toBs lc) = d from by
    rw [← hd]
    congr 1
    refine propext ⟨fun h => ?_, fun h => by rw [h]⟩
    have := congrArg lists h
    rwa [lists_toBs, lists_toBs] at this] at h
  exact Calls.quiet_of h

end Go.Proofs.YtknommnlkdlkdaaGreatDoor
