/- CommuteSame. -/
import Derived.Test.YtknommnlkdlkdaaGreatDoorCk20
import Derived.Test.YtknommnlkdlkdaaGreatDoorCk31
import Derived.Test.YtknommnlkdlkdaaGreatDoorCk34
import Derived.Test.YtknommnlkdlkdaaGreatDoorCk37
namespace Go.Proofs.YtknommnlkdlkdaaGreatDoor
open Go.RowKit
set_option linter.unusedVariables false

theorem box_two (w : World) (x y : Pm) (ox : x.Ok w w.heap.size) (oy : y.Ok w w.heap.size) : Below w.heap.size w ((w.alloc (.cells #[.int .i64 x.kind, .string x.p, .string x.dst, .int .i64 x.at_, .slice x.a1 x.old.length x.c1, .slice x.a2 x.new.length x.c2] 25)).alloc (.cells #[.int .i64 y.kind, .string y.p, .string y.dst, .int .i64 y.at_, .slice y.a1 y.old.length y.c1, .slice y.a2 y.new.length y.c2] 25)) ∧ HeldP ((w.alloc (.cells #[.int .i64 x.kind, .string x.p, .string x.dst, .int .i64 x.at_, .slice x.a1 x.old.length x.c1, .slice x.a2 x.new.length x.c2] 25)).alloc (.cells #[.int .i64 y.kind, .string y.p, .string y.dst, .int .i64 y.at_, .slice y.a1 y.old.length y.c1, .slice y.a2 y.new.length y.c2] 25)) w.heap.size x ∧ HeldP ((w.alloc (.cells #[.int .i64 x.kind, .string x.p, .string x.dst, .int .i64 x.at_, .slice x.a1 x.old.length x.c1, .slice x.a2 x.new.length x.c2] 25)).alloc (.cells #[.int .i64 y.kind, .string y.p, .string y.dst, .int .i64 y.at_, .slice y.a1 y.old.length y.c1, .slice y.a2 y.new.length y.c2] 25)) (w.heap.size + 1) y := by
  obtain ⟨bl, k7, k8⟩ := box2 w x y
  exact ⟨bl, ⟨k7, ox.on bl⟩, ⟨k8, oy.on bl⟩⟩
theorem apAll_two {ks res : List PF} {p q : Pk} (h : apAll ks [p, q] = (0, res)) : ∃ js, apP ks p = (0, js) ∧ apP js q = (0, res) := by
  unfold apAll at h
  split at h
  · rename_i h1
    refine ⟨(apP ks p).2, Prod.ext h1 rfl, ?_⟩
    unfold apAll at h
    split at h
    · rename_i h2
      unfold apAll at h
      exact Prod.ext h2 (Prod.mk.inj h).2
    · rename_i h2
      exact absurd (Prod.mk.inj h).1 h2
  · rename_i h1
    exact absurd (Prod.mk.inj h).1 h1
theorem apAll_mk {ks js res : List PF} {p q : Pk} (h1 : apP ks p = (0, js)) (h2 : apP js q = (0, res)) : apAll ks [p, q] = (0, res) := by
  unfold apAll
  rw [h1]
  simp only [if_true]
  unfold apAll
  rw [h2]
  simp [apAll]
theorem two_len {ks js res : List PF} {p q : Pk} (h1 : apP ks p = (0, js)) (h2 : apP js q = (0, res)) : res.length ≤ ks.length + 2 := by
  have a := ap_len ks p
  have b := ap_len js q
  rw [h1] at a
  rw [h2] at b
  simp only at a b
  omega
/-- A tree in a cell of its own. -/
def HeldT (w : World) (g : Nat) (B : Option Addr) (n c : Nat) (ks : List PF) : Prop := TrC w B n c ks ∧ TAt w g B n c
theorem HeldT.on {w w' : World} {g : Nat} {B : Option Addr} {n c : Nat} {ks : List PF} (h : HeldT w g B n c ks) (hb : Below w.heap.size w w') : HeldT w' g B n c ks := ⟨tree_c.on h.1 hb, h.2.on hb⟩
theorem tree_kept {w : World} {B : Option Addr} {n c : Nat} {ks : List PF} (h : TrC w B n c ks) : Below w.heap.size w (w.alloc (.cells #[.slice B n c] 31)) ∧ HeldT (w.alloc (.cells #[.slice B n c] 31)) w.heap.size B n c ks := by
  have hb : Below w.heap.size w (w.alloc (.cells #[.slice B n c] 31)) := (Below.refl _ _).alloc (Nat.le_refl _) _
  exact ⟨hb, tree_c.on h hb, TAt.new_ w B n c⟩
theorem light6_of {f : Fm} (h : light6One f = true) : f.p.size ≤ 300 ∧ LightK f.ls := by
  unfold light6One at h
  simp only [Bool.and_eq_true, decide_eq_true_eq] at h
  exact ⟨h.1, light3_facts h.2⟩
set_option maxHeartbeats 40000000 in
set_option maxRecDepth 100000 in
theorem commutesame_any (A0 : Option Addr) (fs : List Fm) (cap0 : Nat) (x y : Pm) (w : World) (hf : Fs w w.heap.size A0 fs) (hfn : fs.length ≤ 9223372036854775807) (hfm : ∀ f ∈ fs, f.p.size ≤ 9223372036854775807 ∧ f.ls.length ≤ 9223372036854775807) (ox : x.Ok w w.heap.size) (oy : y.Ok w w.heap.size) (hT0 : Tabs w) :
    Calls Tryz.prog 3 #[.slice A0 fs.length cap0, .agg #[.int .i64 x.kind, .string x.p, .string x.dst, .int .i64 x.at_, .slice x.a1 x.old.length x.c1, .slice x.a2 x.new.length x.c2], .agg #[.int .i64 y.kind, .string y.p, .string y.dst, .int .i64 y.at_, .slice y.a1 y.old.length y.c1, .slice y.a2 y.new.length y.c2]] w fun e w' => e = .returned (.bool true) ∧ Below w.heap.size w w' := by
  obtain ⟨ha, hx, hy⟩ := box_two w x y ox oy
  have C6 := light6_any A0 fs cap0 ((w.alloc (.cells #[.int .i64 x.kind, .string x.p, .string x.dst, .int .i64 x.at_, .slice x.a1 x.old.length x.c1, .slice x.a2 x.new.length x.c2] 25)).alloc (.cells #[.int .i64 y.kind, .string y.p, .string y.dst, .int .i64 y.at_, .slice y.a1 y.old.length y.c1, .slice y.a2 y.new.length y.c2] 25)) (hf.on ha) hfn (fun f h => (hfm f h).2)
  have hps := row_two hx.2 hy.2
  have CL := light7_any (some ⟨((w.alloc (.cells #[.int .i64 x.kind, .string x.p, .string x.dst, .int .i64 x.at_, .slice x.a1 x.old.length x.c1, .slice x.a2 x.new.length x.c2] 25)).alloc (.cells #[.int .i64 y.kind, .string y.p, .string y.dst, .int .i64 y.at_, .slice y.a1 y.old.length y.c1, .slice y.a2 y.new.length y.c2] 25)).heap.size, 0, none⟩) [x, y] 2 _ hps (by simp)
  have hbr : Below ((w.alloc (.cells #[.int .i64 x.kind, .string x.p, .string x.dst, .int .i64 x.at_, .slice x.a1 x.old.length x.c1, .slice x.a2 x.new.length x.c2] 25)).alloc (.cells #[.int .i64 y.kind, .string y.p, .string y.dst, .int .i64 y.at_, .slice y.a1 y.old.length y.c1, .slice y.a2 y.new.length y.c2] 25)).heap.size ((w.alloc (.cells #[.int .i64 x.kind, .string x.p, .string x.dst, .int .i64 x.at_, .slice x.a1 x.old.length x.c1, .slice x.a2 x.new.length x.c2] 25)).alloc (.cells #[.int .i64 y.kind, .string y.p, .string y.dst, .int .i64 y.at_, .slice y.a1 y.old.length y.c1, .slice y.a2 y.new.length y.c2] 25)) (((w.alloc (.cells #[.int .i64 x.kind, .string x.p, .string x.dst, .int .i64 x.at_, .slice x.a1 x.old.length x.c1, .slice x.a2 x.new.length x.c2] 25)).alloc (.cells #[.int .i64 y.kind, .string y.p, .string y.dst, .int .i64 y.at_, .slice y.a1 y.old.length y.c1, .slice y.a2 y.new.length y.c2] 25)).alloc (.cells #[.int .i64 x.kind, .string x.p, .string x.dst, .int .i64 x.at_, .slice x.a1 x.old.length x.c1, .slice x.a2 x.new.length x.c2, .int .i64 y.kind, .string y.p, .string y.dst, .int .i64 y.at_, .slice y.a1 y.old.length y.c1, .slice y.a2 y.new.length y.c2] 25)) := (Below.refl _ _).alloc (Nat.le_refl _) _
  have hbl := ha.trans (hbr.mono ha.size)
  have hw2 : ((w.alloc (.cells #[.int .i64 x.kind, .string x.p, .string x.dst, .int .i64 x.at_, .slice x.a1 x.old.length x.c1, .slice x.a2 x.new.length x.c2] 25)).alloc (.cells #[.int .i64 y.kind, .string y.p, .string y.dst, .int .i64 y.at_, .slice y.a1 y.old.length y.c1, .slice y.a2 y.new.length y.c2] 25)).heap.size = w.heap.size + 1 + 1 := by rw [World.size_alloc, World.size_alloc]
  rw [hw2] at CL
  have RX : Hid (x.at_ < 9223372036854775808 ∧ y.at_ < 9223372036854775808) := by
    have h1 : x.at_ ≤ 9223372036854775807 := ox.h.hi
    have h2 : y.at_ ≤ 9223372036854775807 := oy.h.hi
    show _ ∧ _
    omega
  cases h6 : light6B fs
  · rw [h6] at C6
    have C6 := Lib.hid C6
    have HA := Lib.hid ha
    have HT := Lib.hid (Tabs.on hT0 ha)
    clear hf hfm ox oy hT0 ha hx hy CL hps hbr hbl hw2 RX
    go_enter Tryz.func3, Tryz.ntmps3
    go_wp2_with fail
    refine C6.out.mono ?_
    rintro e wl ⟨rfl, rfl⟩
    clear C6
    go_wp2_with fail
    refine (cawake_any _ HT.out).mono ?_
    rintro e wz ⟨rfl, hb⟩
    have HB := Lib.hid (HA.out.trans (hb.mono HA.out.size))
    clear hb
    go_wp2
    go_ret
    exact ⟨rfl, HB.out⟩
  rw [h6] at C6
  have HA := Lib.hid hbl
  have Hx := Lib.hid (hx.on hbr)
  have Hy := Lib.hid (hy.on hbr)
  have HT := Lib.hid (Tabs.on hT0 hbl)
  have C6 := Lib.hid C6
  have X0 := hx.1
  have Y0 := hy.1
  obtain ⟨hfl, hfo⟩ := light6_facts h6
  have CO := Lib.hid (of_any A0 fs cap0 (((w.alloc (.cells #[.int .i64 x.kind, .string x.p, .string x.dst, .int .i64 x.at_, .slice x.a1 x.old.length x.c1, .slice x.a2 x.new.length x.c2] 25)).alloc (.cells #[.int .i64 y.kind, .string y.p, .string y.dst, .int .i64 y.at_, .slice y.a1 y.old.length y.c1, .slice y.a2 y.new.length y.c2] 25)).alloc (.cells #[.int .i64 x.kind, .string x.p, .string x.dst, .int .i64 x.at_, .slice x.a1 x.old.length x.c1, .slice x.a2 x.new.length x.c2, .int .i64 y.kind, .string y.p, .string y.dst, .int .i64 y.at_, .slice y.a1 y.old.length y.c1, .slice y.a2 y.new.length y.c2] 25)) (hf.on hbl) (by omega) (fun f h => Nat.le_trans (light6_of (hfo f h)).1 (by decide)) (fun f h => (light6_of (hfo f h)).2.wide) HT.out)
  have FL : Hid (∀ f ∈ fs, f.ls.length ≤ 60) := fun f h => (light6_of (hfo f h)).2.1
  cases h7 : light7B [x, y]
  · rw [h7] at CL
    have CL := Lib.hid CL

    have x_0 := X0.c0
    have x_1 := X0.c1
    have x_2 := X0.c2
    have x_3 := X0.c3
    have x_4 := X0.c4
    have x_5 := X0.c5
    have y_0 := Y0.c0
    have y_1 := Y0.c1
    have y_2 := Y0.c2
    have y_3 := Y0.c3
    have y_4 := Y0.c4
    have y_5 := Y0.c5
    clear h6 h7 RX Hx Hy CO FL hf hfm ox oy hT0 ha hx hy hps hbr hbl hw2 X0 Y0 hfo
    go_enter Tryz.func3, Tryz.ntmps3
    go_wp2_with fail
    refine C6.out.mono ?_
    rintro e wl ⟨rfl, rfl⟩
    clear C6
    go_wp2_with fail
    refine CL.out.mono ?_
    rintro e wl ⟨rfl, rfl⟩
    clear CL
    go_wp2_with fail
    refine (cawake_any _ HT.out).mono ?_
    rintro e wz ⟨rfl, hb⟩
    have HB := Lib.hid (HA.out.trans (hb.mono HA.out.size))
    clear hb
    go_wp2
    go_ret
    exact ⟨rfl, HB.out⟩
  rw [h7] at CL
  obtain ⟨_, hl⟩ := light7_facts h7
  have Lx : Hid (LtK x.key) := light_lt (light7_light (hl x (by simp)))
  have Ly : Hid (LtK y.key) := light_lt (light7_light (hl y (by simp)))
  have CL := Lib.hid CL
  have x_0 := X0.c0
  have x_1 := X0.c1
  have x_2 := X0.c2
  have x_3 := X0.c3
  have x_4 := X0.c4
  have x_5 := X0.c5
  have y_0 := Y0.c0
  have y_1 := Y0.c1
  have y_2 := Y0.c2
  have y_3 := Y0.c3
  have y_4 := Y0.c4
  have y_5 := Y0.c5
  clear h6 h7 hl hf hfm ox oy hT0 ha hx hy hps hbr hbl hw2 X0 Y0 hfo
  go_enter Tryz.func3, Tryz.ntmps3
  go_wp2_with fail
  refine C6.out.mono ?_
  rintro e wl ⟨rfl, rfl⟩
  clear C6
  go_wp2_with fail
  refine CL.out.mono ?_
  rintro e wl ⟨rfl, rfl⟩
  clear CL
  clear x_0 x_1 x_2 x_3 x_4 x_5 y_0 y_1 y_2 y_3 y_4 y_5
  go_wp2_with fail
  generalize (((w.alloc (.cells #[.int .i64 x.kind, .string x.p, .string x.dst, .int .i64 x.at_, .slice x.a1 x.old.length x.c1, .slice x.a2 x.new.length x.c2] 25)).alloc (.cells #[.int .i64 y.kind, .string y.p, .string y.dst, .int .i64 y.at_, .slice y.a1 y.old.length y.c1, .slice y.a2 y.new.length y.c2] 25)).alloc (.cells #[.int .i64 x.kind, .string x.p, .string x.dst, .int .i64 x.at_, .slice x.a1 x.old.length x.c1, .slice x.a2 x.new.length x.c2, .int .i64 y.kind, .string y.p, .string y.dst, .int .i64 y.at_, .slice y.a1 y.old.length y.c1, .slice y.a2 y.new.length y.c2] 25)) = wk0 at *
  refine CO.out.mono ?_
  rintro e w1 ⟨er0, ks, hperm, hweak, hofe, B1, l1, c1, rfl, ht, hb⟩
  obtain ⟨kt, hkt, hkw, hkl, hks, hk60⟩ : ∃ kt, TrC w1 B1 l1 c1 kt ∧ Well kt ∧ kt.length ≤ 40 ∧ (er0 = 0 → kt = ks) ∧ ∀ k ∈ kt, k.2.2.length ≤ 60 := by
    by_cases h : er0 = 0
    · refine ⟨ks, ht.out.1 h, well_of hweak ?_, ?_, fun _ => rfl, fun k hk => ?_⟩
      · rcases hofe with ⟨_, h2⟩ | ⟨h2, _⟩
        · exact h2
        · exact absurd h h2
      · have := hperm.length_eq
        rw [fkeys_len] at this
        omega
      · have hm := hperm.mem_iff.1 hk
        unfold fkeys at hm
        obtain ⟨f, hf, rfl⟩ := List.mem_map.1 hm
        exact FL.out f hf
    · exact ⟨[], ht.out.2 h, Well.nil, by simp, fun h2 => absurd h2 h, fun k hk => by cases hk⟩
  obtain ⟨hbt, htk⟩ := tree_kept hkt
  have hbl := hb.trans (hbt.mono hb.size)
  replace Hx := Lib.hid (Hx.out.on hbl)
  replace Hy := Lib.hid (Hy.out.on hbl)
  replace HA := Lib.hid (HA.out.trans (hbl.mono HA.out.size))
  replace HT := Lib.hid (Tabs.on HT.out hbl)
  have Ht1 := Lib.hid htk
  have KW := Lib.hid hkw
  have K60 := Lib.hid hk60
  clear hperm hweak hofe ht hb hkt hkw hks hk60 hbt htk hbl CO FL
  have t1_0 := Ht1.out.2.c0
  have x_0 := Hx.out.1.c0
  have x_1 := Hx.out.1.c1
  have x_2 := Hx.out.1.c2
  have x_3 := Hx.out.1.c3
  have x_4 := Hx.out.1.c4
  have x_5 := Hx.out.1.c5
  have y_0 := Hy.out.1.c0
  have y_1 := Hy.out.1.c1
  have y_2 := Hy.out.1.c2
  have y_3 := Hy.out.1.c3
  have y_4 := Hy.out.1.c4
  have y_5 := Hy.out.1.c5
  have hps := row_two Hx.out.2 Hy.out.2
  have hbr : Below (w1.alloc (.cells #[.slice B1 l1 c1] 31)).heap.size (w1.alloc (.cells #[.slice B1 l1 c1] 31)) ((w1.alloc (.cells #[.slice B1 l1 c1] 31)).alloc (.cells #[.int .i64 x.kind, .string x.p, .string x.dst, .int .i64 x.at_, .slice x.a1 x.old.length x.c1, .slice x.a2 x.new.length x.c2, .int .i64 y.kind, .string y.p, .string y.dst, .int .i64 y.at_, .slice y.a1 y.old.length y.c1, .slice y.a2 y.new.length y.c2] 25)) := (Below.refl _ _).alloc (Nat.le_refl _) _
  obtain ⟨er, res, hap⟩ : ∃ er res, apAll kt [x.key, y.key] = (er, res) := ⟨_, _, rfl⟩
  have CL2 := pall_any tree_c B1 l1 c1 kt (some ⟨(w1.alloc (.cells #[.slice B1 l1 c1] 31)).heap.size, 0, none⟩) [x, y] 2 er res ((w1.alloc (.cells #[.slice B1 l1 c1] 31)).alloc (.cells #[.int .i64 x.kind, .string x.p, .string x.dst, .int .i64 x.at_, .slice x.a1 x.old.length x.c1, .slice x.a2 x.new.length x.c2, .int .i64 y.kind, .string y.p, .string y.dst, .int .i64 y.at_, .slice y.a1 y.old.length y.c1, .slice y.a2 y.new.length y.c2] 25)) (tree_c.on Ht1.out.1 hbr) (by simp; omega) KW.out hps (fun v hv => by
    simp only [List.mem_cons, List.not_mem_nil, or_false] at hv
    rcases hv with rfl | rfl
    · exact lt_light Lx.out
    · exact lt_light Ly.out) (Tabs.on HT.out hbr) hap
  have hz1 : (w1.alloc (.cells #[.slice B1 l1 c1] 31)).heap.size = w1.heap.size + 1 := World.size_alloc _ _
  rw [hz1] at CL2
  have HAP := Lib.hid hap
  have CL2 := Lib.hid CL2
  replace Hx := Lib.hid (Hx.out.on hbr)
  replace Hy := Lib.hid (Hy.out.on hbr)
  replace HA := Lib.hid (HA.out.trans (hbr.mono HA.out.size))
  replace HT := Lib.hid (Tabs.on HT.out hbr)
  replace Ht1 := Lib.hid (Ht1.out.on hbr)
  clear hps hap hz1 hbr
  go_wp2_with fail
  clear t1_0
  clear x_0 x_1 x_2 x_3 x_4 x_5 y_0 y_1 y_2 y_3 y_4 y_5
  generalize ((w1.alloc (.cells #[.slice B1 l1 c1] 31)).alloc (.cells #[.int .i64 x.kind, .string x.p, .string x.dst, .int .i64 x.at_, .slice x.a1 x.old.length x.c1, .slice x.a2 x.new.length x.c2, .int .i64 y.kind, .string y.p, .string y.dst, .int .i64 y.at_, .slice y.a1 y.old.length y.c1, .slice y.a2 y.new.length y.c2] 25)) = wk1 at *
  refine CL2.out.mono ?_
  rintro e w2 ⟨B2, l2, c2, rfl, ht2, hb⟩
  obtain ⟨ku, hku, hkr⟩ : ∃ ku, TrC w2 B2 l2 c2 ku ∧ (er = 0 → ku = res) := by
    by_cases h : er = 0
    · exact ⟨res, ht2.out.1 h, fun _ => rfl⟩
    · exact ⟨[], ht2.out.2 h, fun h2 => absurd h2 h⟩
  obtain ⟨hbt, htk⟩ := tree_kept hku
  have hbl := hb.trans (hbt.mono hb.size)
  replace Hx := Lib.hid (Hx.out.on hbl)
  replace Hy := Lib.hid (Hy.out.on hbl)
  replace Ht1 := Lib.hid (Ht1.out.on hbl)
  replace HA := Lib.hid (HA.out.trans (hbl.mono HA.out.size))
  replace HT := Lib.hid (Tabs.on HT.out hbl)
  have Ht2 := Lib.hid htk
  have HKR := Lib.hid hkr
  clear ht2 hb hku hkr hbt htk hbl CL2
  have x_0 := Hx.out.1.c0
  have x_1 := Hx.out.1.c1
  have x_2 := Hx.out.1.c2
  have x_3 := Hx.out.1.c3
  have x_4 := Hx.out.1.c4
  have x_5 := Hx.out.1.c5
  have y_0 := Hy.out.1.c0
  have y_1 := Hy.out.1.c1
  have y_2 := Hy.out.1.c2
  have y_3 := Hy.out.1.c3
  have y_4 := Hy.out.1.c4
  have y_5 := Hy.out.1.c5
  go_wp2_with fail
  clear x_0 x_1 x_2 x_3 x_4 x_5 y_0 y_1 y_2 y_3 y_4 y_5
  generalize (w2.alloc (.cells #[.slice B2 l2 c2] 31)) = wk2 at *
  refine (cpair_l x y _ Hx.out.2 Hy.out.2 Lx.out Ly.out HT.out).mono ?_
  rintro e wp1 ⟨b, a, n1, rfl, hy, hb⟩
  have EQ1 := Lib.hid hy.out.2.2
  have hkp := pair_kept Lx.out Ly.out hy.out hb
  have hbl := hkp.1
  replace Hx := Lib.hid (Hx.out.on hbl)
  replace Hy := Lib.hid (Hy.out.on hbl)
  replace Ht1 := Lib.hid (Ht1.out.on hbl)
  replace Ht2 := Lib.hid (Ht2.out.on hbl)
  replace HA := Lib.hid (HA.out.trans (hbl.mono HA.out.size))
  replace HT := Lib.hid (Tabs.on HT.out hbl)
  have Hb := Lib.hid hkp.2.1
  have Ha := Lib.hid hkp.2.2.1
  have Lb := Lib.hid hkp.2.2.2.1
  have La := Lib.hid hkp.2.2.2.2
  clear hy hb hkp hbl
  by_cases hn0 : er0 = 0
  · subst hn0
    by_cases hn1 : er = 0
    · subst hn1
      by_cases hn2 : n1 = 0
      · subst hn2
        obtain ⟨js, hj1, hj2⟩ := apAll_two HAP.out
        obtain ⟨hcb, hca, js2, hg1, hg2⟩ := swap_all KW.out EQ1.out hj1 hj2 (fun k hk => by
          have h1 := K60.out k hk
          have h2 := Ly.out.new.1
          omega)
        have hback := pair_back EQ1.out RX.out.1 RX.out.2 hcb hca
        have hap2 := apAll_mk hg1 hg2
        have hlen := two_len hj1 hj2
        have hkr := HKR.out rfl
        subst hkr
        have HBK := Lib.hid hback
        have HLN : Hid (ku.length ≤ 400) := by show _ ≤ _; omega
        clear hj1 hj2 hg1 hg2 hback HAP HKR hcb hca hlen K60
        have t1_0 := Ht1.out.2.c0
        have b_0 := Hb.out.1.c0
        have b_1 := Hb.out.1.c1
        have b_2 := Hb.out.1.c2
        have b_3 := Hb.out.1.c3
        have b_4 := Hb.out.1.c4
        have b_5 := Hb.out.1.c5
        have a_0 := Ha.out.1.c0
        have a_1 := Ha.out.1.c1
        have a_2 := Ha.out.1.c2
        have a_3 := Ha.out.1.c3
        have a_4 := Ha.out.1.c4
        have a_5 := Ha.out.1.c5
        have hps := row_two Hb.out.2 Ha.out.2
        have hbr : Below ((wp1.alloc (.cells #[.int .i64 b.kind, .string b.p, .string b.dst, .int .i64 b.at_, .slice b.a1 b.old.length b.c1, .slice b.a2 b.new.length b.c2] 25)).alloc (.cells #[.int .i64 a.kind, .string a.p, .string a.dst, .int .i64 a.at_, .slice a.a1 a.old.length a.c1, .slice a.a2 a.new.length a.c2] 25)).heap.size ((wp1.alloc (.cells #[.int .i64 b.kind, .string b.p, .string b.dst, .int .i64 b.at_, .slice b.a1 b.old.length b.c1, .slice b.a2 b.new.length b.c2] 25)).alloc (.cells #[.int .i64 a.kind, .string a.p, .string a.dst, .int .i64 a.at_, .slice a.a1 a.old.length a.c1, .slice a.a2 a.new.length a.c2] 25)) (((wp1.alloc (.cells #[.int .i64 b.kind, .string b.p, .string b.dst, .int .i64 b.at_, .slice b.a1 b.old.length b.c1, .slice b.a2 b.new.length b.c2] 25)).alloc (.cells #[.int .i64 a.kind, .string a.p, .string a.dst, .int .i64 a.at_, .slice a.a1 a.old.length a.c1, .slice a.a2 a.new.length a.c2] 25)).alloc (.cells #[.int .i64 b.kind, .string b.p, .string b.dst, .int .i64 b.at_, .slice b.a1 b.old.length b.c1, .slice b.a2 b.new.length b.c2, .int .i64 a.kind, .string a.p, .string a.dst, .int .i64 a.at_, .slice a.a1 a.old.length a.c1, .slice a.a2 a.new.length a.c2] 25)) := (Below.refl _ _).alloc (Nat.le_refl _) _
        have CL3 := (pall_any tree_c B1 l1 c1 kt (some ⟨((wp1.alloc (.cells #[.int .i64 b.kind, .string b.p, .string b.dst, .int .i64 b.at_, .slice b.a1 b.old.length b.c1, .slice b.a2 b.new.length b.c2] 25)).alloc (.cells #[.int .i64 a.kind, .string a.p, .string a.dst, .int .i64 a.at_, .slice a.a1 a.old.length a.c1, .slice a.a2 a.new.length a.c2] 25)).heap.size, 0, none⟩) [b, a] 2 0 ku (((wp1.alloc (.cells #[.int .i64 b.kind, .string b.p, .string b.dst, .int .i64 b.at_, .slice b.a1 b.old.length b.c1, .slice b.a2 b.new.length b.c2] 25)).alloc (.cells #[.int .i64 a.kind, .string a.p, .string a.dst, .int .i64 a.at_, .slice a.a1 a.old.length a.c1, .slice a.a2 a.new.length a.c2] 25)).alloc (.cells #[.int .i64 b.kind, .string b.p, .string b.dst, .int .i64 b.at_, .slice b.a1 b.old.length b.c1, .slice b.a2 b.new.length b.c2, .int .i64 a.kind, .string a.p, .string a.dst, .int .i64 a.at_, .slice a.a1 a.old.length a.c1, .slice a.a2 a.new.length a.c2] 25)) (tree_c.on Ht1.out.1 hbr) (by simp; omega) KW.out hps (fun v hv => by
          simp only [List.mem_cons, List.not_mem_nil, or_false] at hv
          rcases hv with rfl | rfl
          · exact lt_light Lb.out
          · exact lt_light La.out) (Tabs.on HT.out hbr) hap2)
        have hz3 : ((wp1.alloc (.cells #[.int .i64 b.kind, .string b.p, .string b.dst, .int .i64 b.at_, .slice b.a1 b.old.length b.c1, .slice b.a2 b.new.length b.c2] 25)).alloc (.cells #[.int .i64 a.kind, .string a.p, .string a.dst, .int .i64 a.at_, .slice a.a1 a.old.length a.c1, .slice a.a2 a.new.length a.c2] 25)).heap.size = wp1.heap.size + 1 + 1 := by rw [World.size_alloc, World.size_alloc]
        rw [hz3] at CL3
        have CL3 := Lib.hid CL3
        replace Hx := Lib.hid (Hx.out.on hbr)
        replace Hy := Lib.hid (Hy.out.on hbr)
        replace Hb := Lib.hid (Hb.out.on hbr)
        replace Ha := Lib.hid (Ha.out.on hbr)
        replace Ht1 := Lib.hid (Ht1.out.on hbr)
        replace Ht2 := Lib.hid (Ht2.out.on hbr)
        replace HA := Lib.hid (HA.out.trans (hbr.mono HA.out.size))
        replace HT := Lib.hid (Tabs.on HT.out hbr)
        clear hps hap2 hbr hz3
        go_wp2_with fail
        clear t1_0
        clear b_0 b_1 b_2 b_3 b_4 b_5 a_0 a_1 a_2 a_3 a_4 a_5
        generalize (((wp1.alloc (.cells #[.int .i64 b.kind, .string b.p, .string b.dst, .int .i64 b.at_, .slice b.a1 b.old.length b.c1, .slice b.a2 b.new.length b.c2] 25)).alloc (.cells #[.int .i64 a.kind, .string a.p, .string a.dst, .int .i64 a.at_, .slice a.a1 a.old.length a.c1, .slice a.a2 a.new.length a.c2] 25)).alloc (.cells #[.int .i64 b.kind, .string b.p, .string b.dst, .int .i64 b.at_, .slice b.a1 b.old.length b.c1, .slice b.a2 b.new.length b.c2, .int .i64 a.kind, .string a.p, .string a.dst, .int .i64 a.at_, .slice a.a1 a.old.length a.c1, .slice a.a2 a.new.length a.c2] 25)) = wk4 at *
        refine CL3.out.mono ?_
        rintro e w3 ⟨B3, l3, c3, rfl, ht3, hb⟩
        have hku := ht3.out.1 rfl
        obtain ⟨hbt, htk⟩ := tree_kept hku
        have hbl := hb.trans (hbt.mono hb.size)
        replace Hx := Lib.hid (Hx.out.on hbl)
        replace Hy := Lib.hid (Hy.out.on hbl)
        replace Hb := Lib.hid (Hb.out.on hbl)
        replace Ha := Lib.hid (Ha.out.on hbl)
        replace Ht1 := Lib.hid (Ht1.out.on hbl)
        replace Ht2 := Lib.hid (Ht2.out.on hbl)
        replace HA := Lib.hid (HA.out.trans (hbl.mono HA.out.size))
        replace HT := Lib.hid (Tabs.on HT.out hbl)
        have Ht3 := Lib.hid htk
        clear ht3 hb hku hbt htk hbl CL3
        have b_0 := Hb.out.1.c0
        have b_1 := Hb.out.1.c1
        have b_2 := Hb.out.1.c2
        have b_3 := Hb.out.1.c3
        have b_4 := Hb.out.1.c4
        have b_5 := Hb.out.1.c5
        have a_0 := Ha.out.1.c0
        have a_1 := Ha.out.1.c1
        have a_2 := Ha.out.1.c2
        have a_3 := Ha.out.1.c3
        have a_4 := Ha.out.1.c4
        have a_5 := Ha.out.1.c5
        go_wp2_with fail
        clear b_0 b_1 b_2 b_3 b_4 b_5 a_0 a_1 a_2 a_3 a_4 a_5
        generalize (w3.alloc (.cells #[.slice B3 l3 c3] 31)) = wk5 at *
        refine (cpair_l b a _ Hb.out.2 Ha.out.2 Lb.out La.out HT.out).mono ?_
        rintro e w4 ⟨x2, y2, n4, rfl, hy, hb⟩
        have EQ4 := Lib.hid hy.out.2.2
        have hkp := pair_kept Lb.out La.out hy.out hb
        have hbl := hkp.1
        replace Hx := Lib.hid (Hx.out.on hbl)
        replace Hy := Lib.hid (Hy.out.on hbl)
        replace Hb := Lib.hid (Hb.out.on hbl)
        replace Ha := Lib.hid (Ha.out.on hbl)
        replace Ht1 := Lib.hid (Ht1.out.on hbl)
        replace Ht2 := Lib.hid (Ht2.out.on hbl)
        replace Ht3 := Lib.hid (Ht3.out.on hbl)
        replace HA := Lib.hid (HA.out.trans (hbl.mono HA.out.size))
        replace HT := Lib.hid (Tabs.on HT.out hbl)
        have Hx2 := Lib.hid hkp.2.1
        have Hy2 := Lib.hid hkp.2.2.1
        have Lx2 := Lib.hid hkp.2.2.2.1
        have Ly2 := Lib.hid hkp.2.2.2.2
        clear hy hb hkp hbl
        have hq := HBK.out.symm.trans EQ4.out
        simp only [Prod.mk.injEq] at hq
        obtain ⟨hq0, hqx, hqy⟩ := hq
        subst hq0
        have HQ : Hid (x.key = x2.key ∧ y.key = y2.key) := ⟨hqx, hqy⟩
        clear hqx hqy HBK EQ4 EQ1
        go_wp2_with fail
        generalize ((w4.alloc (.cells #[.int .i64 x2.kind, .string x2.p, .string x2.dst, .int .i64 x2.at_, .slice x2.a1 x2.old.length x2.c1, .slice x2.a2 x2.new.length x2.c2] 25)).alloc (.cells #[.int .i64 y2.kind, .string y2.p, .string y2.dst, .int .i64 y2.at_, .slice y2.a1 y2.old.length y2.c1, .slice y2.a2 y2.new.length y2.c2] 25)) = wk6 at *
        refine (cawake_any _ HT.out).mono ?_
        rintro e w7 ⟨rfl, hb⟩
        replace Hx := Lib.hid (Hx.out.on hb)
        replace Hy := Lib.hid (Hy.out.on hb)
        replace Hb := Lib.hid (Hb.out.on hb)
        replace Ha := Lib.hid (Ha.out.on hb)
        replace Hx2 := Lib.hid (Hx2.out.on hb)
        replace Hy2 := Lib.hid (Hy2.out.on hb)
        replace Ht1 := Lib.hid (Ht1.out.on hb)
        replace Ht2 := Lib.hid (Ht2.out.on hb)
        replace Ht3 := Lib.hid (Ht3.out.on hb)
        replace HA := Lib.hid (HA.out.trans (hb.mono HA.out.size))
        replace HT := Lib.hid (Tabs.on HT.out hb)
        clear hb
        have t2_0 := Ht2.out.2.c0
        have t3_0 := Ht3.out.2.c0
        go_wp2_with fail
        clear t2_0 t3_0
        refine (tree_c.same B2 l2 c2 ku B3 l3 c3 ku w7 Ht2.out.1 Ht3.out.1 HLN.out HLN.out).mono ?_
        rintro e w8 ⟨rfl, hb⟩
        rw [decide_eq_true rfl]
        replace Hx := Lib.hid (Hx.out.on hb)
        replace Hy := Lib.hid (Hy.out.on hb)
        replace Hb := Lib.hid (Hb.out.on hb)
        replace Ha := Lib.hid (Ha.out.on hb)
        replace Hx2 := Lib.hid (Hx2.out.on hb)
        replace Hy2 := Lib.hid (Hy2.out.on hb)
        replace Ht1 := Lib.hid (Ht1.out.on hb)
        replace Ht2 := Lib.hid (Ht2.out.on hb)
        replace Ht3 := Lib.hid (Ht3.out.on hb)
        replace HA := Lib.hid (HA.out.trans (hb.mono HA.out.size))
        replace HT := Lib.hid (Tabs.on HT.out hb)
        clear hb
        have x2_0 := Hx2.out.1.c0
        have x2_1 := Hx2.out.1.c1
        have x2_2 := Hx2.out.1.c2
        have x2_3 := Hx2.out.1.c3
        have x2_4 := Hx2.out.1.c4
        have x2_5 := Hx2.out.1.c5
        have y2_0 := Hy2.out.1.c0
        have y2_1 := Hy2.out.1.c1
        have y2_2 := Hy2.out.1.c2
        have y2_3 := Hy2.out.1.c3
        have y2_4 := Hy2.out.1.c4
        have y2_5 := Hy2.out.1.c5
        have hk : pkeys [x2, y2] = pkeys [x, y] := by simp [pkeys, HQ.out.1, HQ.out.2]
        have b1 : Below w8.heap.size w8 (w8.alloc (.cells #[.int .i64 x2.kind, .string x2.p, .string x2.dst, .int .i64 x2.at_, .slice x2.a1 x2.old.length x2.c1, .slice x2.a2 x2.new.length x2.c2, .int .i64 y2.kind, .string y2.p, .string y2.dst, .int .i64 y2.at_, .slice y2.a1 y2.old.length y2.c1, .slice y2.a2 y2.new.length y2.c2] 25)) := (Below.refl _ _).alloc (Nat.le_refl _) _
        have z1 : (w8.alloc (.cells #[.int .i64 x2.kind, .string x2.p, .string x2.dst, .int .i64 x2.at_, .slice x2.a1 x2.old.length x2.c1, .slice x2.a2 x2.new.length x2.c2, .int .i64 y2.kind, .string y2.p, .string y2.dst, .int .i64 y2.at_, .slice y2.a1 y2.old.length y2.c1, .slice y2.a2 y2.new.length y2.c2] 25)).heap.size = w8.heap.size + 1 := World.size_alloc _ _
        have b2 : Below (w8.alloc (.cells #[.int .i64 x2.kind, .string x2.p, .string x2.dst, .int .i64 x2.at_, .slice x2.a1 x2.old.length x2.c1, .slice x2.a2 x2.new.length x2.c2, .int .i64 y2.kind, .string y2.p, .string y2.dst, .int .i64 y2.at_, .slice y2.a1 y2.old.length y2.c1, .slice y2.a2 y2.new.length y2.c2] 25)).heap.size (w8.alloc (.cells #[.int .i64 x2.kind, .string x2.p, .string x2.dst, .int .i64 x2.at_, .slice x2.a1 x2.old.length x2.c1, .slice x2.a2 x2.new.length x2.c2, .int .i64 y2.kind, .string y2.p, .string y2.dst, .int .i64 y2.at_, .slice y2.a1 y2.old.length y2.c1, .slice y2.a2 y2.new.length y2.c2] 25)) ((w8.alloc (.cells #[.int .i64 x2.kind, .string x2.p, .string x2.dst, .int .i64 x2.at_, .slice x2.a1 x2.old.length x2.c1, .slice x2.a2 x2.new.length x2.c2, .int .i64 y2.kind, .string y2.p, .string y2.dst, .int .i64 y2.at_, .slice y2.a1 y2.old.length y2.c1, .slice y2.a2 y2.new.length y2.c2] 25)).alloc (.cells #[.int .i64 x.kind, .string x.p, .string x.dst, .int .i64 x.at_, .slice x.a1 x.old.length x.c1, .slice x.a2 x.new.length x.c2, .int .i64 y.kind, .string y.p, .string y.dst, .int .i64 y.at_, .slice y.a1 y.old.length y.c1, .slice y.a2 y.new.length y.c2] 25)) := (Below.refl _ _).alloc (Nat.le_refl _) _
        have hx := Hx.out.on b1
        have hy := Hy.out.on b1
        have x_0 := hx.1.c0
        have x_1 := hx.1.c1
        have x_2 := hx.1.c2
        have x_3 := hx.1.c3
        have x_4 := hx.1.c4
        have x_5 := hx.1.c5
        have y_0 := hy.1.c0
        have y_1 := hy.1.c1
        have y_2 := hy.1.c2
        have y_3 := hy.1.c3
        have y_4 := hy.1.c4
        have y_5 := hy.1.c5
        have ps1 := (row_two Hx2.out.2 Hy2.out.2).on b2
        have ps2 := row_two hx.2 hy.2
        rw [z1] at ps2
        have CS := Lib.hid (refsamep_eq (some ⟨w8.heap.size, 0, none⟩) (some ⟨w8.heap.size + 1, 0, none⟩) [x2, y2] [x, y] 2 2 _ hk ps1 ps2 (by simp) (fun v hv => by
          simp only [List.mem_cons, List.not_mem_nil, or_false] at hv
          rcases hv with rfl | rfl
          · exact ⟨Nat.le_trans Lx2.out.old.1 (by decide), Nat.le_trans Lx2.out.new.1 (by decide)⟩
          · exact ⟨Nat.le_trans Ly2.out.old.1 (by decide), Nat.le_trans Ly2.out.new.1 (by decide)⟩))
        have HB := Lib.hid (HA.out.trans ((b1.trans (b2.mono b1.size)).mono HA.out.size))
        clear hk b1 b2 ps1 ps2 z1 hx hy HQ
        go_wp2_with fail
        refine CS.out.mono ?_
        rintro e wz ⟨rfl, qn, rfl⟩
        clear CS
        go_wp2
        go_ret
        exact ⟨rfl, below_drewN HB.out qn⟩
      · have en : (n1 != 0) = true := by simpa using hn2
        have en' : (n1 == 0) = false := by simpa using hn2
        clear hn2 HAP HKR
        go_wp2_with fail
        generalize ((wp1.alloc (.cells #[.int .i64 b.kind, .string b.p, .string b.dst, .int .i64 b.at_, .slice b.a1 b.old.length b.c1, .slice b.a2 b.new.length b.c2] 25)).alloc (.cells #[.int .i64 a.kind, .string a.p, .string a.dst, .int .i64 a.at_, .slice a.a1 a.old.length a.c1, .slice a.a2 a.new.length a.c2] 25)) = wk3 at *
        refine (cawake_any _ HT.out).mono ?_
        rintro e wz ⟨rfl, hb⟩
        have HB := Lib.hid (HA.out.trans (hb.mono HA.out.size))
        clear hb
        go_wp2
        go_ret
        exact ⟨rfl, HB.out⟩
    · have en : (er != 0) = true := by simpa using hn1
      have en' : (er == 0) = false := by simpa using hn1
      clear hn1 HAP HKR
      go_wp2_with fail
      generalize ((wp1.alloc (.cells #[.int .i64 b.kind, .string b.p, .string b.dst, .int .i64 b.at_, .slice b.a1 b.old.length b.c1, .slice b.a2 b.new.length b.c2] 25)).alloc (.cells #[.int .i64 a.kind, .string a.p, .string a.dst, .int .i64 a.at_, .slice a.a1 a.old.length a.c1, .slice a.a2 a.new.length a.c2] 25)) = wk3 at *
      refine (cawake_any _ HT.out).mono ?_
      rintro e wz ⟨rfl, hb⟩
      have HB := Lib.hid (HA.out.trans (hb.mono HA.out.size))
      clear hb
      go_wp2
      go_ret
      exact ⟨rfl, HB.out⟩
  · have en : (er0 != 0) = true := by simpa using hn0
    have en' : (er0 == 0) = false := by simpa using hn0
    clear hn0 HAP HKR
    go_wp2_with fail
    generalize ((wp1.alloc (.cells #[.int .i64 b.kind, .string b.p, .string b.dst, .int .i64 b.at_, .slice b.a1 b.old.length b.c1, .slice b.a2 b.new.length b.c2] 25)).alloc (.cells #[.int .i64 a.kind, .string a.p, .string a.dst, .int .i64 a.at_, .slice a.a1 a.old.length a.c1, .slice a.a2 a.new.length a.c2] 25)) = wk3 at *
    refine (cawake_any _ HT.out).mono ?_
    rintro e wz ⟨rfl, hb⟩
    have HB := Lib.hid (HA.out.trans (hb.mono HA.out.size))
    clear hb
    go_wp2
    go_ret
    exact ⟨rfl, HB.out⟩
end Go.Proofs.YtknommnlkdlkdaaGreatDoor
