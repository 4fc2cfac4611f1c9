/- Package prim's copied, Hunk. Package prim's Invert. -/
import Derived.Test.YtaepfahpbnpeiaaGreatDoorCk30
import Derived.Test.YtaepfahpbnpeiaaGreatDoorCk22
namespace Go.Proofs.YtaepfahpbnpeiaaGreatDoor
open Go.RowKit
set_option linter.unusedVariables false

set_option maxRecDepth 100000 in
theorem pcopied_any (A : Option Addr) (la : List (List UInt8)) (cap : Nat) (w : World) (hs : Strs w w.heap.size A (toBs la)) (hr : Room A la.length cap) (hn : la.length ≤ 1000000) :
    Calls Tryz.prog 47 #[.slice A la.length cap] w fun e w' => ∃ A' c', e = .returned (.slice A' la.length c') ∧ OwnS w' w.heap.size (.slice A' la.length c') la ∧ Below w.heap.size w w' := by
  have HS := Lib.hid hs
  have HR := Lib.hid hr
  clear hs hr
  go_enter Tryz.func47, Tryz.ntmps47
  go_wp2_with (at_builtin; refine wpList_append_strs rfl _ _ rfl w.heap.size _ [] la rfl (OwnS.nil w w.heap.size) A cap la.length rfl rfl HR.out.1 HS.out (Nat.le_refl _) (by simp; omega) ?_)
  intro v w' ho hg
  have hb : Below w.heap.size w w' := (Below.refl _ w).grown hg (Nat.le_refl _) fun k hk => by simp [Value.ownBlock] at hk
  have HO := Lib.hid ho
  clear ho hg
  go_wp2
  go_ret
  obtain ⟨A2, c2, rfl, _, _, _⟩ := HO.out.strs
  exact ⟨A2, c2, rfl, HO.out, hb⟩
/-- A step whose lines lie in blocks of strings. -/
def Pm.Sep (x : Pm) (w : World) : Prop := x.Ok w w.heap.size ∧ StrBlk w x.a1 x.old ∧ StrBlk w x.a2 x.new
theorem Pm.Sep.on {x : Pm} {w w' : World} (h : x.Sep w) (hb : Below w.heap.size w w') : x.Sep w' := ⟨h.1.on hb, h.2.1.on hb, h.2.2.on hb⟩
theorem Pm.Sep.grown {x : Pm} {w w' : World} (h : x.Sep w) {g : Nat} {cur2 : Array Value} {t : TypeId} {fz2 : Nat × Nat} (h2 : w.heap[g]? = some (.cells cur2 t fz2)) (ht : t ≠ 9) (hg : w.grownBy w' (some g)) : x.Sep w' :=
  ⟨⟨⟨h.2.1.strs h.1.h.old h2 ht hg, h.2.2.strs h.1.h.new h2 ht hg, h.1.h.r1, h.1.h.r2, h.1.h.lo, h.1.h.hi, h.1.h.n1, h.1.h.n2⟩, h.1.p, h.1.q, h.1.lo, h.1.hi⟩, h.2.1.grown h2 ht hg, h.2.2.grown h2 ht hg⟩
theorem cell_set6 {w : World} {b g off : Nat} {v v0 v1 v2 v3 v4 v5 : Value} (h : w.cell? ⟨b, off, none⟩ = some v) (hne : b ≠ g) : ((((((w.setCell ⟨g, 0, none⟩ v0).setCell ⟨g, 1, none⟩ v1).setCell ⟨g, 2, none⟩ v2).setCell ⟨g, 3, none⟩ v3).setCell ⟨g, 4, none⟩ v4).setCell ⟨g, 5, none⟩ v5).cell? ⟨b, off, none⟩ = some v :=
  World.grownBy.cell (grown_on (grown_on (grown_on (grown_on (grown_on (grown_cell _ _ _ _) (grown_cell _ _ _ _)) (grown_cell _ _ _ _)) (grown_cell _ _ _ _)) (grown_cell _ _ _ _)) (grown_cell _ _ _ _)) h (by simpa using hne)
/-- A step comes back. -/
def PrimLeft (w : World) (k : Pk) (e : Ending) (w' : World) : Prop :=
  ∃ y : Pm, e = .returned (.agg #[.int .i64 y.kind, .string y.p, .string y.dst, .int .i64 y.at_, .slice y.a1 y.old.length y.c1, .slice y.a2 y.new.length y.c2]) ∧ Hid (y.Sep w' ∧ y.key = k) ∧ Below w.heap.size w w'
theorem StrBlk.nil_ (w : World) (A : Option Addr) : StrBlk w A [] := fun h => absurd h (by simp)
/-- A step without lines. -/
theorem sep_bare (w : World) (kind : Int) (p q : ByteArray) (hp : p.size ≤ 9223372036854775807) (hq : q.size ≤ 9223372036854775807) (h1 : 1 ≤ kind) (h2 : kind ≤ 6) : Pm.Sep ⟨kind, p, q, 0, none, 0, [], none, 0, []⟩ w :=
  ⟨⟨⟨Strs.none_, Strs.none_, ⟨fun _ => rfl, Nat.le_refl _⟩, ⟨fun _ => rfl, Nat.le_refl _⟩, by show (-9223372036854775808 : Int) ≤ 0; decide, by show (0 : Int) ≤ 9223372036854775807; decide, by show (0 : Nat) ≤ 9223372036854775807; decide, by show (0 : Nat) ≤ 9223372036854775807; decide⟩, hp, hq, by show _ ≤ kind; omega, by show kind ≤ _; omega⟩, StrBlk.nil_ _ _, StrBlk.nil_ _ _⟩
/-- A step written into the result, handed back. -/
theorem prim_set {w w2 : World} {G : Nat} {y0 y : Pm} {k : Pk} (hb : Below w.heap.size w w2) (hG : w.heap.size ≤ G) (hP : PrimAt w2 G y0) (hy : y.Sep w2) (hk : y.key = k) : PrimLeft w k (.returned (.agg #[.int .i64 y.kind, .string y.p, .string y.dst, .int .i64 y.at_, .slice y.a1 y.old.length y.c1, .slice y.a2 y.new.length y.c2])) (setPrim w2 G y) :=
  ⟨y, rfl, ⟨hy.grown hP (by decide) (setPrim_grown w2 G y), hk⟩, below_prim y hb hG hb.size⟩
set_option maxHeartbeats 8000000 in
set_option maxRecDepth 100000 in
theorem phunk_any (p : ByteArray) (at_ : Int) (a1 : Option Addr) (c1 : Nat) (old : List (List UInt8)) (a2 : Option Addr) (c2 : Nat) (new : List (List UInt8)) (w : World) (ok : Hm.Ok ⟨at_, a1, c1, old, a2, c2, new⟩ w w.heap.size) (m1 : old.length ≤ 1000000) (m2 : new.length ≤ 1000000) (hp : p.size ≤ 9223372036854775807) :
    Calls Tryz.prog 22 #[.string p, .agg #[.int .i64 at_, .slice a1 old.length c1, .slice a2 new.length c2]] w (PrimLeft w ⟨6, p.data.toList, [], at_, old, new⟩) := by
  have hb1 : Below (w.alloc (.cells #[.int .i64 at_, .slice a1 old.length c1, .slice a2 new.length c2] 55)).heap.size (w.alloc (.cells #[.int .i64 at_, .slice a1 old.length c1, .slice a2 new.length c2] 55)) ((w.alloc (.cells #[.int .i64 at_, .slice a1 old.length c1, .slice a2 new.length c2] 55)).alloc (.cells #[.int .i64 0, .string ⟨#[]⟩, .string ⟨#[]⟩, .int .i64 0, .slice none 0 0, .slice none 0 0] 38)) := (Below.refl _ _).alloc (Nat.le_refl _) _
  have hb0 : Below w.heap.size w (w.alloc (.cells #[.int .i64 at_, .slice a1 old.length c1, .slice a2 new.length c2] 55)) := (Below.refl _ _).alloc (Nat.le_refl _) _
  have hal := hb0.trans (hb1.mono hb0.size)
  have HH : Hid (HunkAt ((w.alloc (.cells #[.int .i64 at_, .slice a1 old.length c1, .slice a2 new.length c2] 55)).alloc (.cells #[.int .i64 0, .string ⟨#[]⟩, .string ⟨#[]⟩, .int .i64 0, .slice none 0 0, .slice none 0 0] 38)) w.heap.size ⟨at_, a1, c1, old, a2, c2, new⟩) := (HunkAt.new_ w ⟨at_, a1, c1, old, a2, c2, new⟩).on hb1
  have HP : Hid (PrimAt ((w.alloc (.cells #[.int .i64 at_, .slice a1 old.length c1, .slice a2 new.length c2] 55)).alloc (.cells #[.int .i64 0, .string ⟨#[]⟩, .string ⟨#[]⟩, .int .i64 0, .slice none 0 0, .slice none 0 0] 38)) (w.heap.size + 1) ⟨0, ⟨#[]⟩, ⟨#[]⟩, 0, none, 0, [], none, 0, []⟩) := by
    have h := PrimAt.new_ (w.alloc (.cells #[.int .i64 at_, .slice a1 old.length c1, .slice a2 new.length c2] 55)) ⟨0, ⟨#[]⟩, ⟨#[]⟩, 0, none, 0, [], none, 0, []⟩
    rw [World.size_alloc] at h
    exact h
  have HO := Lib.hid (ok.on hal)
  have HA := Lib.hid hal
  have HZ := Lib.hid hp
  have c0 := HH.out.c0
  have c3 := HH.out.c1
  have c4 := HH.out.c2
  clear hal hb0 hb1 ok hp
  go_enter Tryz.func22, Tryz.ntmps22
  go_wp2_with fail
  generalize ((w.alloc (.cells #[.int .i64 at_, .slice a1 old.length c1, .slice a2 new.length c2] 55)).alloc (.cells #[.int .i64 0, .string ⟨#[]⟩, .string ⟨#[]⟩, .int .i64 0, .slice none 0 0, .slice none 0 0] 38)) = wa at *
  have hdr : Below wa.heap.size wa wa.drew := (Below.refl _ _).drew
  have C1 := Lib.hid (pcopied_any a1 old c1 wa.drew (HO.out.old.on hdr) HO.out.r1 m1)
  have C2 := Lib.hid (fun W (hb : Below wa.heap.size wa W) => pcopied_any a2 new c2 W (HO.out.new.on hb) HO.out.r2 m2)
  have HDR := Lib.hid hdr
  clear hdr
  go_region_held3 (fun w' => w'.cell? ⟨w.heap.size, 0, none⟩ = some (.int .i64 at_) ∧ w'.cell? ⟨w.heap.size, 1, none⟩ = some (.slice a1 old.length c1) ∧ w'.cell? ⟨w.heap.size, 2, none⟩ = some (.slice a2 new.length c2)) (first | with_reducible exact ⟨c0, c3, c4⟩ | with_reducible exact ⟨cell_on c0 (HDR.out.trans (hb7.mono HDR.out.size)), cell_on c3 (HDR.out.trans (hb7.mono HDR.out.size)), cell_on c4 (HDR.out.trans (hb7.mono HDR.out.size))⟩ | with_reducible exact ⟨cell_on (cell_on c0 (HDR.out.trans (hb7.mono HDR.out.size))) hb8, cell_on (cell_on c3 (HDR.out.trans (hb7.mono HDR.out.size))) hb8, cell_on (cell_on c4 (HDR.out.trans (hb7.mono HDR.out.size))) hb8⟩ | with_reducible exact ⟨cell_set6 (cell_on (cell_on c0 (HDR.out.trans (hb7.mono HDR.out.size))) hb8) (by omega), cell_set6 (cell_on (cell_on c3 (HDR.out.trans (hb7.mono HDR.out.size))) hb8) (by omega), cell_set6 (cell_on (cell_on c4 (HDR.out.trans (hb7.mono HDR.out.size))) hb8) (by omega)⟩ | (go_keep; done)) (first
    | (go_at_call 47; with_reducible refine C1.out.mono ?_; rintro e w7 ⟨A7, k7, rfl, ho7, hb7⟩)
    | (go_at_call 47; with_reducible refine (C2.out w7 (HDR.out.trans (hb7.mono HDR.out.size))).mono ?_; rintro e w8 ⟨A8, k8, rfl, ho8, hb8⟩; have hP8 := (HP.out.on (HDR.out.trans (hb7.mono HDR.out.size))).on hb8; have x0 := hP8.c0; have x1 := hP8.c1; have x2 := hP8.c2; have x3 := hP8.c3; have x4 := hP8.c4; have x5 := hP8.c5; have y0 := hP8.fz 0; have y1 := hP8.fz 1; have y2 := hP8.fz 2; have y3 := hP8.fz 3; have y4 := hP8.fz 4; have y5 := hP8.fz 5))
  have hw8 := HDR.out.trans ((hb7.trans (hb8.mono hb7.size)).mono HDR.out.size)
  have hS : Hid (Pm.Sep ⟨6, p, ⟨#[]⟩, at_, A7, k7, old, A8, k8, new⟩ w8) := by
    have ho7' := ho7.kept hb8
    obtain ⟨B1, d1, e1, s1, _, _⟩ := ho7'.strs
    obtain ⟨B2, d2, e2, s2, _, _⟩ := ho8.strs
    simp only [Value.slice.injEq] at e1 e2
    obtain ⟨rfl, _, rfl⟩ := e1
    obtain ⟨rfl, _, rfl⟩ := e2
    exact ⟨⟨⟨s1, s2, ho7'.at_.2.1, ho8.at_.2.1, HO.out.lo, HO.out.hi, HO.out.n1, HO.out.n2⟩, HZ.out, by show (0 : Nat) ≤ _; omega, by show (-9223372036854775808 : Int) ≤ 6; omega, by show (6 : Int) ≤ _; omega⟩, ho7'.blk, ho8.blk⟩
  have HF : Hid (PrimLeft w ⟨6, p.data.toList, [], at_, old, new⟩ (.returned (.agg #[.int .i64 6, .string p, .string ⟨#[]⟩, .int .i64 at_, .slice A7 old.length k7, .slice A8 new.length k8])) (setPrim w8 (w.heap.size + 1) ⟨6, p, ⟨#[]⟩, at_, A7, k7, old, A8, k8, new⟩)) := prim_set (HA.out.trans (hw8.mono HA.out.size)) (by omega) hP8 hS.out rfl
  have HPS := Lib.hid (setPrim_at hP8 ⟨6, p, ⟨#[]⟩, at_, A7, k7, old, A8, k8, new⟩)
  trace_state
  clear hw8 hP8 hS ho7 ho8 hb7 hb8 x0 x1 x2 x3 x4 x5 y0 y1 y2 y3 y4 y5
  go_wp2
  (try simp only [Exit.inBlock, Exit.then])
  refine bodyPost_ret (ret_prim rfl _ _ _ _ rfl HPS.out) rfl ?_
  exact HF.out
end Go.Proofs.YtaepfahpbnpeiaaGreatDoor
namespace Go.Proofs.YtaepfahpbnpeiaaGreatDoor
open Go.RowKit
set_option linter.unusedVariables false

set_option maxHeartbeats 8000000 in
set_option maxRecDepth 100000 in
theorem pinvert_any (x : Pm) (w : World) (ok : x.Ok w w.heap.size) (m1 : x.old.length ≤ 1000000) (m2 : x.new.length ≤ 1000000) (hck : ckP x.key = 0) :
    Calls Tryz.prog 26 #[x.val] w (PrimLeft w (invP x.key)) := by
  obtain ⟨kind, p, q, at_, a1, c1, old, a2, c2, new⟩ := x
  unfold Pm.val
  simp only [] at m1 m2 ⊢
  have hb1 : Below (w.alloc (.cells #[.int .i64 kind, .string p, .string q, .int .i64 at_, .slice a1 old.length c1, .slice a2 new.length c2] 38)).heap.size (w.alloc (.cells #[.int .i64 kind, .string p, .string q, .int .i64 at_, .slice a1 old.length c1, .slice a2 new.length c2] 38)) ((w.alloc (.cells #[.int .i64 kind, .string p, .string q, .int .i64 at_, .slice a1 old.length c1, .slice a2 new.length c2] 38)).alloc (.cells #[.int .i64 0, .string ⟨#[]⟩, .string ⟨#[]⟩, .int .i64 0, .slice none 0 0, .slice none 0 0] 38)) := (Below.refl _ _).alloc (Nat.le_refl _) _
  have hb0 : Below w.heap.size w (w.alloc (.cells #[.int .i64 kind, .string p, .string q, .int .i64 at_, .slice a1 old.length c1, .slice a2 new.length c2] 38)) := (Below.refl _ _).alloc (Nat.le_refl _) _
  have hal := hb0.trans (hb1.mono hb0.size)
  have HX : Hid (PAt ((w.alloc (.cells #[.int .i64 kind, .string p, .string q, .int .i64 at_, .slice a1 old.length c1, .slice a2 new.length c2] 38)).alloc (.cells #[.int .i64 0, .string ⟨#[]⟩, .string ⟨#[]⟩, .int .i64 0, .slice none 0 0, .slice none 0 0] 38)) w.heap.size kind p q at_ a1 old.length c1 a2 new.length c2) := (PAt.new_ w kind p q at_ a1 old.length c1 a2 new.length c2).on hb1
  have HP : Hid (PrimAt ((w.alloc (.cells #[.int .i64 kind, .string p, .string q, .int .i64 at_, .slice a1 old.length c1, .slice a2 new.length c2] 38)).alloc (.cells #[.int .i64 0, .string ⟨#[]⟩, .string ⟨#[]⟩, .int .i64 0, .slice none 0 0, .slice none 0 0] 38)) (w.heap.size + 1) ⟨0, ⟨#[]⟩, ⟨#[]⟩, 0, none, 0, [], none, 0, []⟩) := by
    have h := PrimAt.new_ (w.alloc (.cells #[.int .i64 kind, .string p, .string q, .int .i64 at_, .slice a1 old.length c1, .slice a2 new.length c2] 38)) ⟨0, ⟨#[]⟩, ⟨#[]⟩, 0, none, 0, [], none, 0, []⟩
    rw [World.size_alloc] at h
    exact h
  have HO := Lib.hid (ok.on hal)
  have HA := Lib.hid hal
  have HZ : Hid (p.size ≤ 9223372036854775807 ∧ q.size ≤ 9223372036854775807) := ⟨ok.p, ok.q⟩
  have b0 := HX.out.k0
  have b1 := HX.out.k1
  have b2 := HX.out.k2
  have b3 := HX.out.k3
  have b4 := HX.out.k4
  have b5 := HX.out.k5
  obtain ⟨kk1, kk6, hdst, hbare, u1, u2, u3⟩ := ck_facts hck
  clear u1 u2 u3
  simp only [Pm.key] at kk1 kk6 hdst hbare
  clear hal hb0 hb1 ok hck
  have hk : kind = 1 ∨ kind = 2 ∨ kind = 3 ∨ kind = 4 ∨ kind = 5 ∨ kind = 6 := by omega
  clear kk1 kk6
  rcases hk with hk | hk | hk | hk | hk | hk
  · subst hk
    have hk0 : Pm.key ⟨2, p, ⟨#[]⟩, 0, none, 0, [], none, 0, []⟩ = invP (Pm.key ⟨1, p, q, at_, a1, c1, old, a2, c2, new⟩) := by
      have hd : q.data.toList = [] := hdst (by decide)
      obtain ⟨z1, z2, z3⟩ := hbare (by decide)
      subst z1; subst z2; subst z3
      simp [Pm.key, invP, kindP, hd]
    have hal2 : Below w.heap.size w ((w.alloc (.cells #[.int .i64 1, .string p, .string q, .int .i64 at_, .slice a1 old.length c1, .slice a2 new.length c2] 38)).alloc (.cells #[.int .i64 2, .string p, .string ⟨#[]⟩, .int .i64 0, .slice none 0 0, .slice none 0 0] 38)) := ((Below.refl _ _).alloc (Nat.le_refl _) _).alloc (by simp) _
    have HF : Hid (PrimLeft w (invP (Pm.key ⟨1, p, q, at_, a1, c1, old, a2, c2, new⟩)) (.returned (.agg #[.int .i64 2, .string p, .string ⟨#[]⟩, .int .i64 0, .slice none 0 0, .slice none 0 0])) ((w.alloc (.cells #[.int .i64 1, .string p, .string q, .int .i64 at_, .slice a1 old.length c1, .slice a2 new.length c2] 38)).alloc (.cells #[.int .i64 2, .string p, .string ⟨#[]⟩, .int .i64 0, .slice none 0 0, .slice none 0 0] 38))) := ⟨⟨2, p, ⟨#[]⟩, 0, none, 0, [], none, 0, []⟩, rfl, ⟨sep_bare _ _ _ _ HZ.out.1 (by show (0 : Nat) ≤ _; omega) (by decide) (by decide), hk0⟩, hal2⟩
    have HPS : Hid (PrimAt ((w.alloc (.cells #[.int .i64 1, .string p, .string q, .int .i64 at_, .slice a1 old.length c1, .slice a2 new.length c2] 38)).alloc (.cells #[.int .i64 2, .string p, .string ⟨#[]⟩, .int .i64 0, .slice none 0 0, .slice none 0 0] 38)) (w.heap.size + 1) ⟨2, p, ⟨#[]⟩, 0, none, 0, [], none, 0, []⟩) := by
      have h := PrimAt.new_ (w.alloc (.cells #[.int .i64 1, .string p, .string q, .int .i64 at_, .slice a1 old.length c1, .slice a2 new.length c2] 38)) ⟨2, p, ⟨#[]⟩, 0, none, 0, [], none, 0, []⟩
      rw [World.size_alloc] at h
      exact h
    clear hk0 hdst hbare hal2
    go_enter Tryz.func26, Tryz.ntmps26
    go_wp2
    (try simp only [Exit.inBlock, Exit.then])
    refine bodyPost_ret (ret_prim rfl _ _ _ _ rfl HPS.out) rfl ?_
    exact HF.out
  · subst hk
    have hk0 : Pm.key ⟨1, p, ⟨#[]⟩, 0, none, 0, [], none, 0, []⟩ = invP (Pm.key ⟨2, p, q, at_, a1, c1, old, a2, c2, new⟩) := by
      have hd : q.data.toList = [] := hdst (by decide)
      obtain ⟨z1, z2, z3⟩ := hbare (by decide)
      subst z1; subst z2; subst z3
      simp [Pm.key, invP, kindP, hd]
    have hal2 : Below w.heap.size w ((w.alloc (.cells #[.int .i64 2, .string p, .string q, .int .i64 at_, .slice a1 old.length c1, .slice a2 new.length c2] 38)).alloc (.cells #[.int .i64 1, .string p, .string ⟨#[]⟩, .int .i64 0, .slice none 0 0, .slice none 0 0] 38)) := ((Below.refl _ _).alloc (Nat.le_refl _) _).alloc (by simp) _
    have HF : Hid (PrimLeft w (invP (Pm.key ⟨2, p, q, at_, a1, c1, old, a2, c2, new⟩)) (.returned (.agg #[.int .i64 1, .string p, .string ⟨#[]⟩, .int .i64 0, .slice none 0 0, .slice none 0 0])) ((w.alloc (.cells #[.int .i64 2, .string p, .string q, .int .i64 at_, .slice a1 old.length c1, .slice a2 new.length c2] 38)).alloc (.cells #[.int .i64 1, .string p, .string ⟨#[]⟩, .int .i64 0, .slice none 0 0, .slice none 0 0] 38))) := ⟨⟨1, p, ⟨#[]⟩, 0, none, 0, [], none, 0, []⟩, rfl, ⟨sep_bare _ _ _ _ HZ.out.1 (by show (0 : Nat) ≤ _; omega) (by decide) (by decide), hk0⟩, hal2⟩
    have HPS : Hid (PrimAt ((w.alloc (.cells #[.int .i64 2, .string p, .string q, .int .i64 at_, .slice a1 old.length c1, .slice a2 new.length c2] 38)).alloc (.cells #[.int .i64 1, .string p, .string ⟨#[]⟩, .int .i64 0, .slice none 0 0, .slice none 0 0] 38)) (w.heap.size + 1) ⟨1, p, ⟨#[]⟩, 0, none, 0, [], none, 0, []⟩) := by
      have h := PrimAt.new_ (w.alloc (.cells #[.int .i64 2, .string p, .string q, .int .i64 at_, .slice a1 old.length c1, .slice a2 new.length c2] 38)) ⟨1, p, ⟨#[]⟩, 0, none, 0, [], none, 0, []⟩
      rw [World.size_alloc] at h
      exact h
    clear hk0 hdst hbare hal2
    go_enter Tryz.func26, Tryz.ntmps26
    go_wp2
    (try simp only [Exit.inBlock, Exit.then])
    refine bodyPost_ret (ret_prim rfl _ _ _ _ rfl HPS.out) rfl ?_
    exact HF.out
  · subst hk
    have hk0 : Pm.key ⟨4, p, ⟨#[]⟩, 0, none, 0, [], none, 0, []⟩ = invP (Pm.key ⟨3, p, q, at_, a1, c1, old, a2, c2, new⟩) := by
      have hd : q.data.toList = [] := hdst (by decide)
      obtain ⟨z1, z2, z3⟩ := hbare (by decide)
      subst z1; subst z2; subst z3
      simp [Pm.key, invP, kindP, hd]
    have hal2 : Below w.heap.size w ((w.alloc (.cells #[.int .i64 3, .string p, .string q, .int .i64 at_, .slice a1 old.length c1, .slice a2 new.length c2] 38)).alloc (.cells #[.int .i64 4, .string p, .string ⟨#[]⟩, .int .i64 0, .slice none 0 0, .slice none 0 0] 38)) := ((Below.refl _ _).alloc (Nat.le_refl _) _).alloc (by simp) _
    have HF : Hid (PrimLeft w (invP (Pm.key ⟨3, p, q, at_, a1, c1, old, a2, c2, new⟩)) (.returned (.agg #[.int .i64 4, .string p, .string ⟨#[]⟩, .int .i64 0, .slice none 0 0, .slice none 0 0])) ((w.alloc (.cells #[.int .i64 3, .string p, .string q, .int .i64 at_, .slice a1 old.length c1, .slice a2 new.length c2] 38)).alloc (.cells #[.int .i64 4, .string p, .string ⟨#[]⟩, .int .i64 0, .slice none 0 0, .slice none 0 0] 38))) := ⟨⟨4, p, ⟨#[]⟩, 0, none, 0, [], none, 0, []⟩, rfl, ⟨sep_bare _ _ _ _ HZ.out.1 (by show (0 : Nat) ≤ _; omega) (by decide) (by decide), hk0⟩, hal2⟩
    have HPS : Hid (PrimAt ((w.alloc (.cells #[.int .i64 3, .string p, .string q, .int .i64 at_, .slice a1 old.length c1, .slice a2 new.length c2] 38)).alloc (.cells #[.int .i64 4, .string p, .string ⟨#[]⟩, .int .i64 0, .slice none 0 0, .slice none 0 0] 38)) (w.heap.size + 1) ⟨4, p, ⟨#[]⟩, 0, none, 0, [], none, 0, []⟩) := by
      have h := PrimAt.new_ (w.alloc (.cells #[.int .i64 3, .string p, .string q, .int .i64 at_, .slice a1 old.length c1, .slice a2 new.length c2] 38)) ⟨4, p, ⟨#[]⟩, 0, none, 0, [], none, 0, []⟩
      rw [World.size_alloc] at h
      exact h
    clear hk0 hdst hbare hal2
    go_enter Tryz.func26, Tryz.ntmps26
    go_wp2
    (try simp only [Exit.inBlock, Exit.then])
    refine bodyPost_ret (ret_prim rfl _ _ _ _ rfl HPS.out) rfl ?_
    exact HF.out
  · subst hk
    have hk0 : Pm.key ⟨3, p, ⟨#[]⟩, 0, none, 0, [], none, 0, []⟩ = invP (Pm.key ⟨4, p, q, at_, a1, c1, old, a2, c2, new⟩) := by
      have hd : q.data.toList = [] := hdst (by decide)
      obtain ⟨z1, z2, z3⟩ := hbare (by decide)
      subst z1; subst z2; subst z3
      simp [Pm.key, invP, kindP, hd]
    have hal2 : Below w.heap.size w ((w.alloc (.cells #[.int .i64 4, .string p, .string q, .int .i64 at_, .slice a1 old.length c1, .slice a2 new.length c2] 38)).alloc (.cells #[.int .i64 3, .string p, .string ⟨#[]⟩, .int .i64 0, .slice none 0 0, .slice none 0 0] 38)) := ((Below.refl _ _).alloc (Nat.le_refl _) _).alloc (by simp) _
    have HF : Hid (PrimLeft w (invP (Pm.key ⟨4, p, q, at_, a1, c1, old, a2, c2, new⟩)) (.returned (.agg #[.int .i64 3, .string p, .string ⟨#[]⟩, .int .i64 0, .slice none 0 0, .slice none 0 0])) ((w.alloc (.cells #[.int .i64 4, .string p, .string q, .int .i64 at_, .slice a1 old.length c1, .slice a2 new.length c2] 38)).alloc (.cells #[.int .i64 3, .string p, .string ⟨#[]⟩, .int .i64 0, .slice none 0 0, .slice none 0 0] 38))) := ⟨⟨3, p, ⟨#[]⟩, 0, none, 0, [], none, 0, []⟩, rfl, ⟨sep_bare _ _ _ _ HZ.out.1 (by show (0 : Nat) ≤ _; omega) (by decide) (by decide), hk0⟩, hal2⟩
    have HPS : Hid (PrimAt ((w.alloc (.cells #[.int .i64 4, .string p, .string q, .int .i64 at_, .slice a1 old.length c1, .slice a2 new.length c2] 38)).alloc (.cells #[.int .i64 3, .string p, .string ⟨#[]⟩, .int .i64 0, .slice none 0 0, .slice none 0 0] 38)) (w.heap.size + 1) ⟨3, p, ⟨#[]⟩, 0, none, 0, [], none, 0, []⟩) := by
      have h := PrimAt.new_ (w.alloc (.cells #[.int .i64 4, .string p, .string q, .int .i64 at_, .slice a1 old.length c1, .slice a2 new.length c2] 38)) ⟨3, p, ⟨#[]⟩, 0, none, 0, [], none, 0, []⟩
      rw [World.size_alloc] at h
      exact h
    clear hk0 hdst hbare hal2
    go_enter Tryz.func26, Tryz.ntmps26
    go_wp2
    (try simp only [Exit.inBlock, Exit.then])
    refine bodyPost_ret (ret_prim rfl _ _ _ _ rfl HPS.out) rfl ?_
    exact HF.out
  · subst hk
    have hk0 : Pm.key ⟨5, q, p, 0, none, 0, [], none, 0, []⟩ = invP (Pm.key ⟨5, p, q, at_, a1, c1, old, a2, c2, new⟩) := by
      obtain ⟨z1, z2, z3⟩ := hbare (by decide)
      subst z1; subst z2; subst z3
      simp [Pm.key, invP, kindP]
    have hal2 : Below w.heap.size w ((w.alloc (.cells #[.int .i64 5, .string p, .string q, .int .i64 at_, .slice a1 old.length c1, .slice a2 new.length c2] 38)).alloc (.cells #[.int .i64 5, .string q, .string p, .int .i64 0, .slice none 0 0, .slice none 0 0] 38)) := ((Below.refl _ _).alloc (Nat.le_refl _) _).alloc (by simp) _
    have HF : Hid (PrimLeft w (invP (Pm.key ⟨5, p, q, at_, a1, c1, old, a2, c2, new⟩)) (.returned (.agg #[.int .i64 5, .string q, .string p, .int .i64 0, .slice none 0 0, .slice none 0 0])) ((w.alloc (.cells #[.int .i64 5, .string p, .string q, .int .i64 at_, .slice a1 old.length c1, .slice a2 new.length c2] 38)).alloc (.cells #[.int .i64 5, .string q, .string p, .int .i64 0, .slice none 0 0, .slice none 0 0] 38))) := ⟨⟨5, q, p, 0, none, 0, [], none, 0, []⟩, rfl, ⟨sep_bare _ _ _ _ HZ.out.2 HZ.out.1 (by decide) (by decide), hk0⟩, hal2⟩
    have HPS : Hid (PrimAt ((w.alloc (.cells #[.int .i64 5, .string p, .string q, .int .i64 at_, .slice a1 old.length c1, .slice a2 new.length c2] 38)).alloc (.cells #[.int .i64 5, .string q, .string p, .int .i64 0, .slice none 0 0, .slice none 0 0] 38)) (w.heap.size + 1) ⟨5, q, p, 0, none, 0, [], none, 0, []⟩) := by
      have h := PrimAt.new_ (w.alloc (.cells #[.int .i64 5, .string p, .string q, .int .i64 at_, .slice a1 old.length c1, .slice a2 new.length c2] 38)) ⟨5, q, p, 0, none, 0, [], none, 0, []⟩
      rw [World.size_alloc] at h
      exact h
    clear hk0 hdst hbare hal2
    go_enter Tryz.func26, Tryz.ntmps26
    go_wp2
    (try simp only [Exit.inBlock, Exit.then])
    refine bodyPost_ret (ret_prim rfl _ _ _ _ rfl HPS.out) rfl ?_
    exact HF.out
  · subst hk
    have hd : q.data.toList = [] := hdst (by decide)
    have hk0 : (⟨6, p.data.toList, [], at_, new, old⟩ : Pk) = invP (Pm.key ⟨6, p, q, at_, a1, c1, old, a2, c2, new⟩) := by
      simp [Pm.key, invP, kindP, hd]
    have CH := Lib.hid (phunk_any p at_ a2 c2 new a1 c1 old ((w.alloc (.cells #[.int .i64 6, .string p, .string q, .int .i64 at_, .slice a1 old.length c1, .slice a2 new.length c2] 38)).alloc (.cells #[.int .i64 0, .string ⟨#[]⟩, .string ⟨#[]⟩, .int .i64 0, .slice none 0 0, .slice none 0 0] 38)) ⟨HO.out.h.new, HO.out.h.old, HO.out.h.r2, HO.out.h.r1, HO.out.h.lo, HO.out.h.hi, HO.out.h.n2, HO.out.h.n1⟩ (by omega) (by omega) HZ.out.1)
    rw [hk0] at CH
    clear hd hk0 hdst hbare
    go_enter Tryz.func26, Tryz.ntmps26
    go_wp2_with fail
    generalize ((w.alloc (.cells #[.int .i64 6, .string p, .string q, .int .i64 at_, .slice a1 old.length c1, .slice a2 new.length c2] 38)).alloc (.cells #[.int .i64 0, .string ⟨#[]⟩, .string ⟨#[]⟩, .int .i64 0, .slice none 0 0, .slice none 0 0] 38)) = wa at *
    refine CH.out.mono ?_
    rintro e w2 ⟨y, rfl, hy, hb⟩
    have hP2 := HP.out.on hb
    have g0 := hP2.c0
    have f0 := hP2.fz 0
    have f1 := hP2.fz 1
    have f2 := hP2.fz 2
    have f3 := hP2.fz 3
    have f4 := hP2.fz 4
    have f5 := hP2.fz 5
    have HF := Lib.hid (prim_set (w := w) (HA.out.trans (hb.mono HA.out.size)) (by omega) hP2 hy.out.1 hy.out.2)
    have HPS := Lib.hid (setPrim_at hP2 y)
    have g1 := hP2.c1
    have g2 := hP2.c2
    have g3 := hP2.c3
    have g4 := hP2.c4
    have g5 := hP2.c5
    clear hP2 hb hy CH
    obtain ⟨ykind, yp, yq, yat, ya1, yc1, yold, ya2, yc2, ynew⟩ := y
    go_wp2
    (try simp only [Exit.inBlock, Exit.then])
    refine bodyPost_ret (ret_prim rfl _ _ _ _ rfl HPS.out) rfl ?_
    exact HF.out
end Go.Proofs.YtaepfahpbnpeiaaGreatDoor
