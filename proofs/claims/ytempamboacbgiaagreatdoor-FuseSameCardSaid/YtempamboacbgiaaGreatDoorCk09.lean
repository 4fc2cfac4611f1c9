/- Package prim's Check. Steps of which no machine has too much; package prim's Check of them. Package prim's copied, Hunk. Package prim's Invert. -/
import Derived.Test.YtempamboacbgiaaGreatDoorCk08
import Derived.Test.YtempamboacbgiaaGreatDoorCk04
import Derived.Test.YtempamboacbgiaaGreatDoorCk05
import Derived.Deep.RegionHeld3
import Derived.WalkKit
namespace Go.Proofs.YtempamboacbgiaaGreatDoor
open Go.RowKit
set_option linter.unusedVariables false

theorem ckP_by (x : Pm) : ckP x.key = if formB x.kind x.dst x.at_ x.old.length x.new.length = false then 2 else if placeB x.kind x.p x.dst = false then 8 else if x.kind = 6 ∧ linedB x.at_ x.old x.new = false then 6 else 0 := by
  have hd : x.dst.data.toList = [] ↔ x.dst = ⟨#[]⟩ := ⟨fun e => by rw [← toB_of x.dst, e]; rfl, fun e => by rw [e]⟩
  have hpq : x.p.data.toList = x.dst.data.toList ↔ x.p = x.dst := ⟨bytes_inj, fun e => by rw [e]⟩
  have f1 : (x.kind < 1 ∨ 6 < x.kind ∨ (x.kind ≠ 5 ∧ x.dst.data.toList ≠ []) ∨ (x.kind ≠ 6 ∧ (x.at_ ≠ 0 ∨ 0 < x.old.length + x.new.length))) ↔ formB x.kind x.dst x.at_ x.old.length x.new.length = false := by
    unfold formB
    rw [decide_eq_false_iff_not]
    constructor
    · rintro (h | h | ⟨h, h'⟩ | ⟨h, h'⟩) ⟨⟨k1, k6⟩, h5, h6⟩
      · omega
      · omega
      · exact h' (hd.2 (h5 h))
      · have := h6 h; omega
    · intro h
      by_cases c1 : x.kind < 1
      · exact .inl c1
      by_cases c2 : 6 < x.kind
      · exact .inr (.inl c2)
      by_cases c3 : x.kind ≠ 5 ∧ x.dst.data.toList ≠ []
      · exact .inr (.inr (.inl c3))
      refine .inr (.inr (.inr ?_))
      refine Classical.byContradiction fun c4 => h ⟨⟨by omega, by omega⟩, fun e => hd.1 (Classical.byContradiction fun g => c3 ⟨e, g⟩), fun e => ?_⟩
      have : ¬ (x.at_ ≠ 0 ∨ 0 < x.old.length + x.new.length) := fun g => c4 ⟨e, g⟩
      omega
  have f2 : (names nameP x.p.data.toList = [] ∨ (x.kind = 5 ∧ (names nameP x.dst.data.toList = [] ∨ x.p.data.toList = x.dst.data.toList))) ↔ placeB x.kind x.p x.dst = false := by
    unfold placeB
    rw [decide_eq_false_iff_not]
    constructor
    · rintro (h | ⟨h, h' | h'⟩) ⟨g1, g2⟩
      · exact g1 h
      · exact (g2 h).1 h'
      · exact (g2 h).2 (hpq.1 h')
    · intro h
      by_cases c1 : names nameP x.p.data.toList = []
      · exact .inl c1
      refine .inr (Classical.byContradiction fun c2 => h ⟨c1, fun e => ⟨fun g => c2 ⟨e, .inl g⟩, fun g => c2 ⟨e, .inr (hpq.2 g)⟩⟩⟩)
  have f3 : (x.kind = 6 ∧ (x.at_ < 0 ∨ x.old.length + x.new.length = 0 ∨ checkN (toBs x.old) ≠ 0 ∨ checkN (toBs x.new) ≠ 0)) ↔ (x.kind = 6 ∧ linedB x.at_ x.old x.new = false) := by
    refine and_congr Iff.rfl ?_
    unfold linedB
    rw [decide_eq_false_iff_not]
    constructor
    · rintro (h | h | h | h) ⟨g1, g2, g3, g4⟩
      · omega
      · exact g2 ⟨by omega, by omega⟩
      · exact h g3
      · exact h g4
    · intro h
      by_cases c1 : x.at_ < 0
      · exact .inl c1
      by_cases c2 : x.old.length + x.new.length = 0
      · exact .inr (.inl c2)
      by_cases c3 : checkN (toBs x.old) ≠ 0
      · exact .inr (.inr (.inl c3))
      refine .inr (.inr (.inr fun c4 => h ⟨by omega, fun e => c2 (by omega), Classical.not_not.1 c3, c4⟩))
  unfold ckP
  exact ite_congr (propext f1) (fun _ => rfl) (fun _ => ite_congr (propext f2) (fun _ => rfl) (fun _ => ite_congr (propext f3) (fun _ => rfl) fun _ => rfl))
set_option maxHeartbeats 20000000 in
set_option maxRecDepth 100000 in
theorem pcheck_any (x : Pm) (w : World) (ok : x.Ok w w.heap.size) (hp : x.p.size ≤ 1000000) (hq : x.dst.size ≤ 1000000) (m1 : x.old.length ≤ 100000) (m2 : x.new.length ≤ 100000) (z1 : ∀ l ∈ x.old, l.length ≤ 100000) (z2 : ∀ l ∈ x.new, l.length ≤ 100000) (hT : Tabs w) :
    Calls Tryz.prog 43 #[x.val] w fun e w' => e = .returned (.int .i64 (ckP x.key)) ∧ Below w.heap.size w w' := by
  rw [ckP_by]
  obtain ⟨kind, p, q, at_, a1, c1, old, a2, c2, new⟩ := x
  unfold Pm.val
  simp only [] at hp hq m1 m2 z1 z2 ⊢
  have hal : Below w.heap.size w (w.alloc (.cells #[.int .i64 kind, .string p, .string q, .int .i64 at_, .slice a1 old.length c1, .slice a2 new.length c2] 38)) := (Below.refl _ _).alloc (Nat.le_refl _) _
  have HP : Hid (PAt (w.alloc (.cells #[.int .i64 kind, .string p, .string q, .int .i64 at_, .slice a1 old.length c1, .slice a2 new.length c2] 38)) w.heap.size kind p q at_ a1 old.length c1 a2 new.length c2) := PAt.new_ w kind p q at_ a1 old.length c1 a2 new.length c2
  have HA := Lib.hid hal
  clear hal
  have b0 := HP.out.k0
  have b1 := HP.out.k1
  have b2 := HP.out.k2
  have b3 := HP.out.k3
  have b4 := HP.out.k4
  have b5 := HP.out.k5
  have HO := Lib.hid (ok.on HA.out)
  have HT := Lib.hid (Tabs.on hT HA.out)
  have CF := Lib.hid (fun b hb W => formed_any kind p q at_ a1 old.length c1 a2 new.length c2 W b hb)
  have CP := Lib.hid (fun b hb W => placed_any kind p q at_ a1 old.length c1 a2 new.length c2 W hp hq b hb)
  have CL := Lib.hid (fun b hr W (hb : Below (w.alloc (.cells #[.int .i64 kind, .string p, .string q, .int .i64 at_, .slice a1 old.length c1, .slice a2 new.length c2] 38)).heap.size (w.alloc (.cells #[.int .i64 kind, .string p, .string q, .int .i64 at_, .slice a1 old.length c1, .slice a2 new.length c2] 38)) W) => lined_any kind p q at_ a1 c1 old a2 c2 new W (HO.out.h.on hb) m1 m2 z1 z2 (Tabs.on HT.out hb) b hr)
  clear ok hT z1 z2 hp hq
  cases hf : formB kind q at_ old.length new.length
  · have C1 := Lib.hid (CF.out _ hf)
    clear CF CP CL hf
    rw [if_pos rfl]
    go_enter Tryz.func43, Tryz.ntmps43
    go_wp2_with fail
    refine (C1.out _).mono ?_
    rintro e w1 ⟨rfl, hb⟩
    have HB1 := Lib.hid hb
    clear hb b0 b1 b2 b3 b4 b5
    have b0 := (HP.out.on HB1.out).k0
    have b1 := (HP.out.on HB1.out).k1
    have b2 := (HP.out.on HB1.out).k2
    have b3 := (HP.out.on HB1.out).k3
    have b4 := (HP.out.on HB1.out).k4
    have b5 := (HP.out.on HB1.out).k5
    go_wp2
    go_ret
    exact ⟨rfl, HA.out.trans (HB1.out.mono HA.out.size)⟩
  · have C1 := Lib.hid (CF.out _ hf)
    rw [if_neg (by simp)]
    cases hpl : placeB kind p q
    · have C2 := Lib.hid (CP.out _ hpl)
      clear CF CP CL hf hpl
      rw [if_pos rfl]
      go_enter Tryz.func43, Tryz.ntmps43
      go_wp2_with fail
      refine (C1.out _).mono ?_
      rintro e w1 ⟨rfl, hb⟩
      have HB1 := Lib.hid hb
      clear hb b0 b1 b2 b3 b4 b5
      have b0 := (HP.out.on HB1.out).k0
      have b1 := (HP.out.on HB1.out).k1
      have b2 := (HP.out.on HB1.out).k2
      have b3 := (HP.out.on HB1.out).k3
      have b4 := (HP.out.on HB1.out).k4
      have b5 := (HP.out.on HB1.out).k5
      go_wp2_with fail
      refine (C2.out _).mono ?_
      rintro e w2 ⟨rfl, hb⟩
      have HB2 := Lib.hid ((HB1.out).trans (hb.mono (HB1.out).size))
      clear hb b0 b1 b2 b3 b4 b5
      have b0 := (HP.out.on HB2.out).k0
      have b1 := (HP.out.on HB2.out).k1
      have b2 := (HP.out.on HB2.out).k2
      have b3 := (HP.out.on HB2.out).k3
      have b4 := (HP.out.on HB2.out).k4
      have b5 := (HP.out.on HB2.out).k5
      go_wp2
      go_ret
      exact ⟨rfl, HA.out.trans (HB2.out.mono HA.out.size)⟩
    · have C2 := Lib.hid (CP.out _ hpl)
      clear CF CP hf hpl
      rw [if_neg (by simp)]
      by_cases hk : kind = 6
      · subst hk
        cases hl : linedB at_ old new
        · have C3 := Lib.hid (CL.out _ hl)
          clear CL hl
          rw [if_pos ⟨rfl, rfl⟩]
          go_enter Tryz.func43, Tryz.ntmps43
          go_wp2_with fail
          refine (C1.out _).mono ?_
          rintro e w1 ⟨rfl, hb⟩
          have HB1 := Lib.hid hb
          clear hb b0 b1 b2 b3 b4 b5
          have b0 := (HP.out.on HB1.out).k0
          have b1 := (HP.out.on HB1.out).k1
          have b2 := (HP.out.on HB1.out).k2
          have b3 := (HP.out.on HB1.out).k3
          have b4 := (HP.out.on HB1.out).k4
          have b5 := (HP.out.on HB1.out).k5
          go_wp2_with fail
          refine (C2.out _).mono ?_
          rintro e w2 ⟨rfl, hb⟩
          have HB2 := Lib.hid ((HB1.out).trans (hb.mono (HB1.out).size))
          clear hb b0 b1 b2 b3 b4 b5
          have b0 := (HP.out.on HB2.out).k0
          have b1 := (HP.out.on HB2.out).k1
          have b2 := (HP.out.on HB2.out).k2
          have b3 := (HP.out.on HB2.out).k3
          have b4 := (HP.out.on HB2.out).k4
          have b5 := (HP.out.on HB2.out).k5
          go_wp2_with fail
          refine (C3.out _ HB2.out).mono ?_
          rintro e w3 ⟨rfl, hb⟩
          have HB3 := Lib.hid ((HB2.out).trans (hb.mono (HB2.out).size))
          clear hb b0 b1 b2 b3 b4 b5
          have b0 := (HP.out.on HB3.out).k0
          have b1 := (HP.out.on HB3.out).k1
          have b2 := (HP.out.on HB3.out).k2
          have b3 := (HP.out.on HB3.out).k3
          have b4 := (HP.out.on HB3.out).k4
          have b5 := (HP.out.on HB3.out).k5
          go_wp2
          go_ret
          exact ⟨rfl, HA.out.trans (HB3.out.mono HA.out.size)⟩
        · have C3 := Lib.hid (CL.out _ hl)
          clear CL hl
          rw [if_neg (by simp)]
          go_enter Tryz.func43, Tryz.ntmps43
          go_wp2_with fail
          refine (C1.out _).mono ?_
          rintro e w1 ⟨rfl, hb⟩
          have HB1 := Lib.hid hb
          clear hb b0 b1 b2 b3 b4 b5
          have b0 := (HP.out.on HB1.out).k0
          have b1 := (HP.out.on HB1.out).k1
          have b2 := (HP.out.on HB1.out).k2
          have b3 := (HP.out.on HB1.out).k3
          have b4 := (HP.out.on HB1.out).k4
          have b5 := (HP.out.on HB1.out).k5
          go_wp2_with fail
          refine (C2.out _).mono ?_
          rintro e w2 ⟨rfl, hb⟩
          have HB2 := Lib.hid ((HB1.out).trans (hb.mono (HB1.out).size))
          clear hb b0 b1 b2 b3 b4 b5
          have b0 := (HP.out.on HB2.out).k0
          have b1 := (HP.out.on HB2.out).k1
          have b2 := (HP.out.on HB2.out).k2
          have b3 := (HP.out.on HB2.out).k3
          have b4 := (HP.out.on HB2.out).k4
          have b5 := (HP.out.on HB2.out).k5
          go_wp2_with fail
          refine (C3.out _ HB2.out).mono ?_
          rintro e w3 ⟨rfl, hb⟩
          have HB3 := Lib.hid ((HB2.out).trans (hb.mono (HB2.out).size))
          clear hb b0 b1 b2 b3 b4 b5
          have b0 := (HP.out.on HB3.out).k0
          have b1 := (HP.out.on HB3.out).k1
          have b2 := (HP.out.on HB3.out).k2
          have b3 := (HP.out.on HB3.out).k3
          have b4 := (HP.out.on HB3.out).k4
          have b5 := (HP.out.on HB3.out).k5
          go_wp2
          go_ret
          exact ⟨rfl, HA.out.trans (HB3.out.mono HA.out.size)⟩
      · have hk2 : (kind == 6) = false := by simpa using hk
        rw [if_neg (fun h => hk h.1)]
        clear CL hk
        go_enter Tryz.func43, Tryz.ntmps43
        go_wp2_with fail
        refine (C1.out _).mono ?_
        rintro e w1 ⟨rfl, hb⟩
        have HB1 := Lib.hid hb
        clear hb b0 b1 b2 b3 b4 b5
        have b0 := (HP.out.on HB1.out).k0
        have b1 := (HP.out.on HB1.out).k1
        have b2 := (HP.out.on HB1.out).k2
        have b3 := (HP.out.on HB1.out).k3
        have b4 := (HP.out.on HB1.out).k4
        have b5 := (HP.out.on HB1.out).k5
        go_wp2_with fail
        refine (C2.out _).mono ?_
        rintro e w2 ⟨rfl, hb⟩
        have HB2 := Lib.hid ((HB1.out).trans (hb.mono (HB1.out).size))
        clear hb b0 b1 b2 b3 b4 b5
        have b0 := (HP.out.on HB2.out).k0
        have b1 := (HP.out.on HB2.out).k1
        have b2 := (HP.out.on HB2.out).k2
        have b3 := (HP.out.on HB2.out).k3
        have b4 := (HP.out.on HB2.out).k4
        have b5 := (HP.out.on HB2.out).k5
        go_wp2
        go_ret
        exact ⟨rfl, HA.out.trans (HB2.out.mono HA.out.size)⟩
end Go.Proofs.YtempamboacbgiaaGreatDoor
namespace Go.Proofs.YtempamboacbgiaaGreatDoor
open Go.RowKit
set_option linter.unusedVariables false

/-- A step of which no machine has too much. -/
structure WdK (k : Pk) : Prop where
  p : k.path.length ≤ 1000000
  q : k.dst.length ≤ 1000000
  old : WideK k.old
  new : WideK k.new
theorem WdK.zero : WdK zeroP := ⟨Nat.zero_le _, Nat.zero_le _, ⟨Nat.zero_le _, fun x h => by cases h⟩, ⟨Nat.zero_le _, fun x h => by cases h⟩⟩
theorem check_w {x : Pm} {w : World} (ok : x.Ok w w.heap.size) (h : WdK x.key) (hT : Tabs w) : Calls Tryz.prog 43 #[x.val] w fun e w' => e = .returned (.int .i64 (ckP x.key)) ∧ Below w.heap.size w w' :=
  pcheck_any x w ok h.p h.q h.old.1 h.new.1 h.old.2 h.new.2 hT
end Go.Proofs.YtempamboacbgiaaGreatDoor
namespace Go.Proofs.YtempamboacbgiaaGreatDoor
open Go.RowKit
set_option linter.unusedVariables false

set_option maxRecDepth 100000 in
theorem pcopied_any (A : Option Addr) (la : List (List UInt8)) (cap : Nat) (w : World) (hs : Strs w w.heap.size A (toBs la)) (hr : Room A la.length cap) (hn : la.length ≤ 1000000) :
    Calls Tryz.prog 58 #[.slice A la.length cap] w fun e w' => ∃ A' c', e = .returned (.slice A' la.length c') ∧ OwnS w' w.heap.size (.slice A' la.length c') la ∧ Below w.heap.size w w' := by
  have HS := Lib.hid hs
  have HR := Lib.hid hr
  clear hs hr
  go_enter Tryz.func58, Tryz.ntmps58
  go_wp2_with (at_builtin; refine wpList_append_strs rfl _ _ rfl w.heap.size _ [] la rfl (OwnS.nil w w.heap.size) A cap la.length rfl rfl HR.out.1 HS.out (Nat.le_refl _) (by simp; omega) ?_)
  intro v w' ho hg
  have hb : Below w.heap.size w w' := (Below.refl _ w).grown hg (Nat.le_refl _) fun k hk => by simp [Value.ownBlock] at hk
  have HO := Lib.hid ho
  clear ho hg
  go_wp2
  go_ret
  obtain ⟨A2, c2, rfl, _, _, _⟩ := HO.out.strs
  exact ⟨A2, c2, rfl, HO.out, hb⟩
set_option maxHeartbeats 8000000 in
set_option maxRecDepth 100000 in
theorem phunk_any (p : ByteArray) (at_ : Int) (a1 : Option Addr) (c1 : Nat) (old : List (List UInt8)) (a2 : Option Addr) (c2 : Nat) (new : List (List UInt8)) (w : World) (ok : Hm.Ok ⟨at_, a1, c1, old, a2, c2, new⟩ w w.heap.size) (m1 : old.length ≤ 1000000) (m2 : new.length ≤ 1000000) (hp : p.size ≤ 9223372036854775807) :
    Calls Tryz.prog 34 #[.string p, .agg #[.int .i64 at_, .slice a1 old.length c1, .slice a2 new.length c2]] w (PrimLeft w ⟨6, p.data.toList, [], at_, old, new⟩) := by
  have hb1 : Below (w.alloc (.cells #[.int .i64 at_, .slice a1 old.length c1, .slice a2 new.length c2] 61)).heap.size (w.alloc (.cells #[.int .i64 at_, .slice a1 old.length c1, .slice a2 new.length c2] 61)) ((w.alloc (.cells #[.int .i64 at_, .slice a1 old.length c1, .slice a2 new.length c2] 61)).alloc (.cells #[.int .i64 0, .string ⟨#[]⟩, .string ⟨#[]⟩, .int .i64 0, .slice none 0 0, .slice none 0 0] 38)) := (Below.refl _ _).alloc (Nat.le_refl _) _
  have hb0 : Below w.heap.size w (w.alloc (.cells #[.int .i64 at_, .slice a1 old.length c1, .slice a2 new.length c2] 61)) := (Below.refl _ _).alloc (Nat.le_refl _) _
  have hal := hb0.trans (hb1.mono hb0.size)
  have HH : Hid (HunkAt ((w.alloc (.cells #[.int .i64 at_, .slice a1 old.length c1, .slice a2 new.length c2] 61)).alloc (.cells #[.int .i64 0, .string ⟨#[]⟩, .string ⟨#[]⟩, .int .i64 0, .slice none 0 0, .slice none 0 0] 38)) w.heap.size ⟨at_, a1, c1, old, a2, c2, new⟩) := (HunkAt.new_ w ⟨at_, a1, c1, old, a2, c2, new⟩).on hb1
  have HP : Hid (PrimAt ((w.alloc (.cells #[.int .i64 at_, .slice a1 old.length c1, .slice a2 new.length c2] 61)).alloc (.cells #[.int .i64 0, .string ⟨#[]⟩, .string ⟨#[]⟩, .int .i64 0, .slice none 0 0, .slice none 0 0] 38)) (w.heap.size + 1) ⟨0, ⟨#[]⟩, ⟨#[]⟩, 0, none, 0, [], none, 0, []⟩) := by
    have h := PrimAt.new_ (w.alloc (.cells #[.int .i64 at_, .slice a1 old.length c1, .slice a2 new.length c2] 61)) ⟨0, ⟨#[]⟩, ⟨#[]⟩, 0, none, 0, [], none, 0, []⟩
    rw [World.size_alloc] at h
    exact h
  have HO := Lib.hid (ok.on hal)
  have HA := Lib.hid hal
  have HZ := Lib.hid hp
  have c0 := HH.out.c0
  have c3 := HH.out.c1
  have c4 := HH.out.c2
  clear hal hb0 hb1 ok hp
  go_enter Tryz.func34, Tryz.ntmps34
  go_wp2_with fail
  generalize ((w.alloc (.cells #[.int .i64 at_, .slice a1 old.length c1, .slice a2 new.length c2] 61)).alloc (.cells #[.int .i64 0, .string ⟨#[]⟩, .string ⟨#[]⟩, .int .i64 0, .slice none 0 0, .slice none 0 0] 38)) = wa at *
  have hdr : Below wa.heap.size wa wa.drew := (Below.refl _ _).drew
  have C1 := Lib.hid (pcopied_any a1 old c1 wa.drew (HO.out.old.on hdr) HO.out.r1 m1)
  have C2 := Lib.hid (fun W (hb : Below wa.heap.size wa W) => pcopied_any a2 new c2 W (HO.out.new.on hb) HO.out.r2 m2)
  have HDR := Lib.hid hdr
  clear hdr
  go_region_held3 (fun w' => w'.cell? ⟨w.heap.size, 0, none⟩ = some (.int .i64 at_) ∧ w'.cell? ⟨w.heap.size, 1, none⟩ = some (.slice a1 old.length c1) ∧ w'.cell? ⟨w.heap.size, 2, none⟩ = some (.slice a2 new.length c2)) (first | with_reducible exact ⟨c0, c3, c4⟩ | with_reducible exact ⟨cell_on c0 (HDR.out.trans (hb7.mono HDR.out.size)), cell_on c3 (HDR.out.trans (hb7.mono HDR.out.size)), cell_on c4 (HDR.out.trans (hb7.mono HDR.out.size))⟩ | with_reducible exact ⟨cell_on (cell_on c0 (HDR.out.trans (hb7.mono HDR.out.size))) hb8, cell_on (cell_on c3 (HDR.out.trans (hb7.mono HDR.out.size))) hb8, cell_on (cell_on c4 (HDR.out.trans (hb7.mono HDR.out.size))) hb8⟩ | with_reducible exact ⟨cell_set6 (cell_on (cell_on c0 (HDR.out.trans (hb7.mono HDR.out.size))) hb8) (by omega), cell_set6 (cell_on (cell_on c3 (HDR.out.trans (hb7.mono HDR.out.size))) hb8) (by omega), cell_set6 (cell_on (cell_on c4 (HDR.out.trans (hb7.mono HDR.out.size))) hb8) (by omega)⟩ | (go_keep; done)) (first
    | (go_at_call 58; with_reducible refine C1.out.mono ?_; rintro e w7 ⟨A7, k7, rfl, ho7, hb7⟩)
    | (go_at_call 58; with_reducible refine (C2.out w7 (HDR.out.trans (hb7.mono HDR.out.size))).mono ?_; rintro e w8 ⟨A8, k8, rfl, ho8, hb8⟩; have hP8 := (HP.out.on (HDR.out.trans (hb7.mono HDR.out.size))).on hb8; have x0 := hP8.c0; have x1 := hP8.c1; have x2 := hP8.c2; have x3 := hP8.c3; have x4 := hP8.c4; have x5 := hP8.c5; have y0 := hP8.fz 0; have y1 := hP8.fz 1; have y2 := hP8.fz 2; have y3 := hP8.fz 3; have y4 := hP8.fz 4; have y5 := hP8.fz 5))
  have hw8 := HDR.out.trans ((hb7.trans (hb8.mono hb7.size)).mono HDR.out.size)
  have hS : Hid (Pm.Sep ⟨6, p, ⟨#[]⟩, at_, A7, k7, old, A8, k8, new⟩ w8) := by
    have ho7' := ho7.kept hb8
    obtain ⟨B1, d1, e1, s1, _, _⟩ := ho7'.strs
    obtain ⟨B2, d2, e2, s2, _, _⟩ := ho8.strs
    simp only [Value.slice.injEq] at e1 e2
    obtain ⟨rfl, _, rfl⟩ := e1
    obtain ⟨rfl, _, rfl⟩ := e2
    exact ⟨⟨⟨s1, s2, ho7'.at_.2.1, ho8.at_.2.1, HO.out.lo, HO.out.hi, HO.out.n1, HO.out.n2⟩, HZ.out, by show (0 : Nat) ≤ _; omega, by show (-9223372036854775808 : Int) ≤ 6; omega, by show (6 : Int) ≤ _; omega⟩, ho7'.blk, ho8.blk⟩
  have HF : Hid (PrimLeft w ⟨6, p.data.toList, [], at_, old, new⟩ (.returned (.agg #[.int .i64 6, .string p, .string ⟨#[]⟩, .int .i64 at_, .slice A7 old.length k7, .slice A8 new.length k8])) (setPrim w8 (w.heap.size + 1) ⟨6, p, ⟨#[]⟩, at_, A7, k7, old, A8, k8, new⟩)) := prim_set (HA.out.trans (hw8.mono HA.out.size)) (by omega) hP8 hS.out rfl
  have HPS := Lib.hid (setPrim_at hP8 ⟨6, p, ⟨#[]⟩, at_, A7, k7, old, A8, k8, new⟩)
  clear hw8 hP8 hS ho7 ho8 hb7 hb8 x0 x1 x2 x3 x4 x5 y0 y1 y2 y3 y4 y5
  go_wp2
  (try simp only [Exit.inBlock, Exit.then])
  refine bodyPost_ret (ret_prim rfl _ _ _ _ rfl HPS.out) rfl ?_
  exact HF.out
end Go.Proofs.YtempamboacbgiaaGreatDoor
namespace Go.Proofs.YtempamboacbgiaaGreatDoor
open Go.RowKit
set_option linter.unusedVariables false

set_option maxHeartbeats 8000000 in
set_option maxRecDepth 100000 in
theorem pinvert_any (x : Pm) (w : World) (ok : x.Ok w w.heap.size) (m1 : x.old.length ≤ 1000000) (m2 : x.new.length ≤ 1000000) (hck : ckP x.key = 0) :
    Calls Tryz.prog 15 #[x.val] w (PrimLeft w (invP x.key)) := by
  obtain ⟨kind, p, q, at_, a1, c1, old, a2, c2, new⟩ := x
  unfold Pm.val
  simp only [] at m1 m2 ⊢
  have hb1 : Below (w.alloc (.cells #[.int .i64 kind, .string p, .string q, .int .i64 at_, .slice a1 old.length c1, .slice a2 new.length c2] 38)).heap.size (w.alloc (.cells #[.int .i64 kind, .string p, .string q, .int .i64 at_, .slice a1 old.length c1, .slice a2 new.length c2] 38)) ((w.alloc (.cells #[.int .i64 kind, .string p, .string q, .int .i64 at_, .slice a1 old.length c1, .slice a2 new.length c2] 38)).alloc (.cells #[.int .i64 0, .string ⟨#[]⟩, .string ⟨#[]⟩, .int .i64 0, .slice none 0 0, .slice none 0 0] 38)) := (Below.refl _ _).alloc (Nat.le_refl _) _
  have hb0 : Below w.heap.size w (w.alloc (.cells #[.int .i64 kind, .string p, .string q, .int .i64 at_, .slice a1 old.length c1, .slice a2 new.length c2] 38)) := (Below.refl _ _).alloc (Nat.le_refl _) _
  have hal := hb0.trans (hb1.mono hb0.size)
  have HX : Hid (PAt ((w.alloc (.cells #[.int .i64 kind, .string p, .string q, .int .i64 at_, .slice a1 old.length c1, .slice a2 new.length c2] 38)).alloc (.cells #[.int .i64 0, .string ⟨#[]⟩, .string ⟨#[]⟩, .int .i64 0, .slice none 0 0, .slice none 0 0] 38)) w.heap.size kind p q at_ a1 old.length c1 a2 new.length c2) := (PAt.new_ w kind p q at_ a1 old.length c1 a2 new.length c2).on hb1
  have HP : Hid (PrimAt ((w.alloc (.cells #[.int .i64 kind, .string p, .string q, .int .i64 at_, .slice a1 old.length c1, .slice a2 new.length c2] 38)).alloc (.cells #[.int .i64 0, .string ⟨#[]⟩, .string ⟨#[]⟩, .int .i64 0, .slice none 0 0, .slice none 0 0] 38)) (w.heap.size + 1) ⟨0, ⟨#[]⟩, ⟨#[]⟩, 0, none, 0, [], none, 0, []⟩) := by
    have h := PrimAt.new_ (w.alloc (.cells #[.int .i64 kind, .string p, .string q, .int .i64 at_, .slice a1 old.length c1, .slice a2 new.length c2] 38)) ⟨0, ⟨#[]⟩, ⟨#[]⟩, 0, none, 0, [], none, 0, []⟩
    rw [World.size_alloc] at h
    exact h
  have HO := Lib.hid (ok.on hal)
  have HA := Lib.hid hal
  have HZ : Hid (p.size ≤ 9223372036854775807 ∧ q.size ≤ 9223372036854775807) := ⟨ok.p, ok.q⟩
  have b0 := HX.out.k0
  have b1 := HX.out.k1
  have b2 := HX.out.k2
  have b3 := HX.out.k3
  have b4 := HX.out.k4
  have b5 := HX.out.k5
  obtain ⟨kk1, kk6, hdst, hbare, u1, u2, u3⟩ := ck_facts hck
  clear u1 u2 u3
  simp only [Pm.key] at kk1 kk6 hdst hbare
  clear hal hb0 hb1 ok hck
  have hk : kind = 1 ∨ kind = 2 ∨ kind = 3 ∨ kind = 4 ∨ kind = 5 ∨ kind = 6 := by omega
  clear kk1 kk6
  rcases hk with hk | hk | hk | hk | hk | hk
  · subst hk
    have hk0 : Pm.key ⟨2, p, ⟨#[]⟩, 0, none, 0, [], none, 0, []⟩ = invP (Pm.key ⟨1, p, q, at_, a1, c1, old, a2, c2, new⟩) := by
      have hd : q.data.toList = [] := hdst (by decide)
      obtain ⟨z1, z2, z3⟩ := hbare (by decide)
      subst z1; subst z2; subst z3
      simp [Pm.key, invP, kindP, hd]
    have hal2 : Below w.heap.size w ((w.alloc (.cells #[.int .i64 1, .string p, .string q, .int .i64 at_, .slice a1 old.length c1, .slice a2 new.length c2] 38)).alloc (.cells #[.int .i64 2, .string p, .string ⟨#[]⟩, .int .i64 0, .slice none 0 0, .slice none 0 0] 38)) := ((Below.refl _ _).alloc (Nat.le_refl _) _).alloc (by simp) _
    have HF : Hid (PrimLeft w (invP (Pm.key ⟨1, p, q, at_, a1, c1, old, a2, c2, new⟩)) (.returned (.agg #[.int .i64 2, .string p, .string ⟨#[]⟩, .int .i64 0, .slice none 0 0, .slice none 0 0])) ((w.alloc (.cells #[.int .i64 1, .string p, .string q, .int .i64 at_, .slice a1 old.length c1, .slice a2 new.length c2] 38)).alloc (.cells #[.int .i64 2, .string p, .string ⟨#[]⟩, .int .i64 0, .slice none 0 0, .slice none 0 0] 38))) := ⟨⟨2, p, ⟨#[]⟩, 0, none, 0, [], none, 0, []⟩, rfl, ⟨sep_bare _ _ _ _ HZ.out.1 (by show (0 : Nat) ≤ _; omega) (by decide) (by decide), hk0⟩, hal2⟩
    have HPS : Hid (PrimAt ((w.alloc (.cells #[.int .i64 1, .string p, .string q, .int .i64 at_, .slice a1 old.length c1, .slice a2 new.length c2] 38)).alloc (.cells #[.int .i64 2, .string p, .string ⟨#[]⟩, .int .i64 0, .slice none 0 0, .slice none 0 0] 38)) (w.heap.size + 1) ⟨2, p, ⟨#[]⟩, 0, none, 0, [], none, 0, []⟩) := by
      have h := PrimAt.new_ (w.alloc (.cells #[.int .i64 1, .string p, .string q, .int .i64 at_, .slice a1 old.length c1, .slice a2 new.length c2] 38)) ⟨2, p, ⟨#[]⟩, 0, none, 0, [], none, 0, []⟩
      rw [World.size_alloc] at h
      exact h
    clear hk0 hdst hbare hal2
    go_enter Tryz.func15, Tryz.ntmps15
    go_wp2
    (try simp only [Exit.inBlock, Exit.then])
    refine bodyPost_ret (ret_prim rfl _ _ _ _ rfl HPS.out) rfl ?_
    exact HF.out
  · subst hk
    have hk0 : Pm.key ⟨1, p, ⟨#[]⟩, 0, none, 0, [], none, 0, []⟩ = invP (Pm.key ⟨2, p, q, at_, a1, c1, old, a2, c2, new⟩) := by
      have hd : q.data.toList = [] := hdst (by decide)
      obtain ⟨z1, z2, z3⟩ := hbare (by decide)
      subst z1; subst z2; subst z3
      simp [Pm.key, invP, kindP, hd]
    have hal2 : Below w.heap.size w ((w.alloc (.cells #[.int .i64 2, .string p, .string q, .int .i64 at_, .slice a1 old.length c1, .slice a2 new.length c2] 38)).alloc (.cells #[.int .i64 1, .string p, .string ⟨#[]⟩, .int .i64 0, .slice none 0 0, .slice none 0 0] 38)) := ((Below.refl _ _).alloc (Nat.le_refl _) _).alloc (by simp) _
    have HF : Hid (PrimLeft w (invP (Pm.key ⟨2, p, q, at_, a1, c1, old, a2, c2, new⟩)) (.returned (.agg #[.int .i64 1, .string p, .string ⟨#[]⟩, .int .i64 0, .slice none 0 0, .slice none 0 0])) ((w.alloc (.cells #[.int .i64 2, .string p, .string q, .int .i64 at_, .slice a1 old.length c1, .slice a2 new.length c2] 38)).alloc (.cells #[.int .i64 1, .string p, .string ⟨#[]⟩, .int .i64 0, .slice none 0 0, .slice none 0 0] 38))) := ⟨⟨1, p, ⟨#[]⟩, 0, none, 0, [], none, 0, []⟩, rfl, ⟨sep_bare _ _ _ _ HZ.out.1 (by show (0 : Nat) ≤ _; omega) (by decide) (by decide), hk0⟩, hal2⟩
    have HPS : Hid (PrimAt ((w.alloc (.cells #[.int .i64 2, .string p, .string q, .int .i64 at_, .slice a1 old.length c1, .slice a2 new.length c2] 38)).alloc (.cells #[.int .i64 1, .string p, .string ⟨#[]⟩, .int .i64 0, .slice none 0 0, .slice none 0 0] 38)) (w.heap.size + 1) ⟨1, p, ⟨#[]⟩, 0, none, 0, [], none, 0, []⟩) := by
      have h := PrimAt.new_ (w.alloc (.cells #[.int .i64 2, .string p, .string q, .int .i64 at_, .slice a1 old.length c1, .slice a2 new.length c2] 38)) ⟨1, p, ⟨#[]⟩, 0, none, 0, [], none, 0, []⟩
      rw [World.size_alloc] at h
      exact h
    clear hk0 hdst hbare hal2
    go_enter Tryz.func15, Tryz.ntmps15
    go_wp2
    (try simp only [Exit.inBlock, Exit.then])
    refine bodyPost_ret (ret_prim rfl _ _ _ _ rfl HPS.out) rfl ?_
    exact HF.out
  · subst hk
    have hk0 : Pm.key ⟨4, p, ⟨#[]⟩, 0, none, 0, [], none, 0, []⟩ = invP (Pm.key ⟨3, p, q, at_, a1, c1, old, a2, c2, new⟩) := by
      have hd : q.data.toList = [] := hdst (by decide)
      obtain ⟨z1, z2, z3⟩ := hbare (by decide)
      subst z1; subst z2; subst z3
      simp [Pm.key, invP, kindP, hd]
    have hal2 : Below w.heap.size w ((w.alloc (.cells #[.int .i64 3, .string p, .string q, .int .i64 at_, .slice a1 old.length c1, .slice a2 new.length c2] 38)).alloc (.cells #[.int .i64 4, .string p, .string ⟨#[]⟩, .int .i64 0, .slice none 0 0, .slice none 0 0] 38)) := ((Below.refl _ _).alloc (Nat.le_refl _) _).alloc (by simp) _
    have HF : Hid (PrimLeft w (invP (Pm.key ⟨3, p, q, at_, a1, c1, old, a2, c2, new⟩)) (.returned (.agg #[.int .i64 4, .string p, .string ⟨#[]⟩, .int .i64 0, .slice none 0 0, .slice none 0 0])) ((w.alloc (.cells #[.int .i64 3, .string p, .string q, .int .i64 at_, .slice a1 old.length c1, .slice a2 new.length c2] 38)).alloc (.cells #[.int .i64 4, .string p, .string ⟨#[]⟩, .int .i64 0, .slice none 0 0, .slice none 0 0] 38))) := ⟨⟨4, p, ⟨#[]⟩, 0, none, 0, [], none, 0, []⟩, rfl, ⟨sep_bare _ _ _ _ HZ.out.1 (by show (0 : Nat) ≤ _; omega) (by decide) (by decide), hk0⟩, hal2⟩
    have HPS : Hid (PrimAt ((w.alloc (.cells #[.int .i64 3, .string p, .string q, .int .i64 at_, .slice a1 old.length c1, .slice a2 new.length c2] 38)).alloc (.cells #[.int .i64 4, .string p, .string ⟨#[]⟩, .int .i64 0, .slice none 0 0, .slice none 0 0] 38)) (w.heap.size + 1) ⟨4, p, ⟨#[]⟩, 0, none, 0, [], none, 0, []⟩) := by
      have h := PrimAt.new_ (w.alloc (.cells #[.int .i64 3, .string p, .string q, .int .i64 at_, .slice a1 old.length c1, .slice a2 new.length c2] 38)) ⟨4, p, ⟨#[]⟩, 0, none, 0, [], none, 0, []⟩
      rw [World.size_alloc] at h
      exact h
    clear hk0 hdst hbare hal2
    go_enter Tryz.func15, Tryz.ntmps15
    go_wp2
    (try simp only [Exit.inBlock, Exit.then])
    refine bodyPost_ret (ret_prim rfl _ _ _ _ rfl HPS.out) rfl ?_
    exact HF.out
  · subst hk
    have hk0 : Pm.key ⟨3, p, ⟨#[]⟩, 0, none, 0, [], none, 0, []⟩ = invP (Pm.key ⟨4, p, q, at_, a1, c1, old, a2, c2, new⟩) := by
      have hd : q.data.toList = [] := hdst (by decide)
      obtain ⟨z1, z2, z3⟩ := hbare (by decide)
      subst z1; subst z2; subst z3
      simp [Pm.key, invP, kindP, hd]
    have hal2 : Below w.heap.size w ((w.alloc (.cells #[.int .i64 4, .string p, .string q, .int .i64 at_, .slice a1 old.length c1, .slice a2 new.length c2] 38)).alloc (.cells #[.int .i64 3, .string p, .string ⟨#[]⟩, .int .i64 0, .slice none 0 0, .slice none 0 0] 38)) := ((Below.refl _ _).alloc (Nat.le_refl _) _).alloc (by simp) _
    have HF : Hid (PrimLeft w (invP (Pm.key ⟨4, p, q, at_, a1, c1, old, a2, c2, new⟩)) (.returned (.agg #[.int .i64 3, .string p, .string ⟨#[]⟩, .int .i64 0, .slice none 0 0, .slice none 0 0])) ((w.alloc (.cells #[.int .i64 4, .string p, .string q, .int .i64 at_, .slice a1 old.length c1, .slice a2 new.length c2] 38)).alloc (.cells #[.int .i64 3, .string p, .string ⟨#[]⟩, .int .i64 0, .slice none 0 0, .slice none 0 0] 38))) := ⟨⟨3, p, ⟨#[]⟩, 0, none, 0, [], none, 0, []⟩, rfl, ⟨sep_bare _ _ _ _ HZ.out.1 (by show (0 : Nat) ≤ _; omega) (by decide) (by decide), hk0⟩, hal2⟩
    have HPS : Hid (PrimAt ((w.alloc (.cells #[.int .i64 4, .string p, .string q, .int .i64 at_, .slice a1 old.length c1, .slice a2 new.length c2] 38)).alloc (.cells #[.int .i64 3, .string p, .string ⟨#[]⟩, .int .i64 0, .slice none 0 0, .slice none 0 0] 38)) (w.heap.size + 1) ⟨3, p, ⟨#[]⟩, 0, none, 0, [], none, 0, []⟩) := by
      have h := PrimAt.new_ (w.alloc (.cells #[.int .i64 4, .string p, .string q, .int .i64 at_, .slice a1 old.length c1, .slice a2 new.length c2] 38)) ⟨3, p, ⟨#[]⟩, 0, none, 0, [], none, 0, []⟩
      rw [World.size_alloc] at h
      exact h
    clear hk0 hdst hbare hal2
    go_enter Tryz.func15, Tryz.ntmps15
    go_wp2
    (try simp only [Exit.inBlock, Exit.then])
    refine bodyPost_ret (ret_prim rfl _ _ _ _ rfl HPS.out) rfl ?_
    exact HF.out
  · subst hk
    have hk0 : Pm.key ⟨5, q, p, 0, none, 0, [], none, 0, []⟩ = invP (Pm.key ⟨5, p, q, at_, a1, c1, old, a2, c2, new⟩) := by
      obtain ⟨z1, z2, z3⟩ := hbare (by decide)
      subst z1; subst z2; subst z3
      simp [Pm.key, invP, kindP]
    have hal2 : Below w.heap.size w ((w.alloc (.cells #[.int .i64 5, .string p, .string q, .int .i64 at_, .slice a1 old.length c1, .slice a2 new.length c2] 38)).alloc (.cells #[.int .i64 5, .string q, .string p, .int .i64 0, .slice none 0 0, .slice none 0 0] 38)) := ((Below.refl _ _).alloc (Nat.le_refl _) _).alloc (by simp) _
    have HF : Hid (PrimLeft w (invP (Pm.key ⟨5, p, q, at_, a1, c1, old, a2, c2, new⟩)) (.returned (.agg #[.int .i64 5, .string q, .string p, .int .i64 0, .slice none 0 0, .slice none 0 0])) ((w.alloc (.cells #[.int .i64 5, .string p, .string q, .int .i64 at_, .slice a1 old.length c1, .slice a2 new.length c2] 38)).alloc (.cells #[.int .i64 5, .string q, .string p, .int .i64 0, .slice none 0 0, .slice none 0 0] 38))) := ⟨⟨5, q, p, 0, none, 0, [], none, 0, []⟩, rfl, ⟨sep_bare _ _ _ _ HZ.out.2 HZ.out.1 (by decide) (by decide), hk0⟩, hal2⟩
    have HPS : Hid (PrimAt ((w.alloc (.cells #[.int .i64 5, .string p, .string q, .int .i64 at_, .slice a1 old.length c1, .slice a2 new.length c2] 38)).alloc (.cells #[.int .i64 5, .string q, .string p, .int .i64 0, .slice none 0 0, .slice none 0 0] 38)) (w.heap.size + 1) ⟨5, q, p, 0, none, 0, [], none, 0, []⟩) := by
      have h := PrimAt.new_ (w.alloc (.cells #[.int .i64 5, .string p, .string q, .int .i64 at_, .slice a1 old.length c1, .slice a2 new.length c2] 38)) ⟨5, q, p, 0, none, 0, [], none, 0, []⟩
      rw [World.size_alloc] at h
      exact h
    clear hk0 hdst hbare hal2
    go_enter Tryz.func15, Tryz.ntmps15
    go_wp2
    (try simp only [Exit.inBlock, Exit.then])
    refine bodyPost_ret (ret_prim rfl _ _ _ _ rfl HPS.out) rfl ?_
    exact HF.out
  · subst hk
    have hd : q.data.toList = [] := hdst (by decide)
    have hk0 : (⟨6, p.data.toList, [], at_, new, old⟩ : Pk) = invP (Pm.key ⟨6, p, q, at_, a1, c1, old, a2, c2, new⟩) := by
      simp [Pm.key, invP, kindP, hd]
    have CH := Lib.hid (phunk_any p at_ a2 c2 new a1 c1 old ((w.alloc (.cells #[.int .i64 6, .string p, .string q, .int .i64 at_, .slice a1 old.length c1, .slice a2 new.length c2] 38)).alloc (.cells #[.int .i64 0, .string ⟨#[]⟩, .string ⟨#[]⟩, .int .i64 0, .slice none 0 0, .slice none 0 0] 38)) ⟨HO.out.h.new, HO.out.h.old, HO.out.h.r2, HO.out.h.r1, HO.out.h.lo, HO.out.h.hi, HO.out.h.n2, HO.out.h.n1⟩ (by omega) (by omega) HZ.out.1)
    rw [hk0] at CH
    clear hd hk0 hdst hbare
    go_enter Tryz.func15, Tryz.ntmps15
    go_wp2_with fail
    generalize ((w.alloc (.cells #[.int .i64 6, .string p, .string q, .int .i64 at_, .slice a1 old.length c1, .slice a2 new.length c2] 38)).alloc (.cells #[.int .i64 0, .string ⟨#[]⟩, .string ⟨#[]⟩, .int .i64 0, .slice none 0 0, .slice none 0 0] 38)) = wa at *
    refine CH.out.mono ?_
    rintro e w2 ⟨y, rfl, hy, hb⟩
    have hP2 := HP.out.on hb
    have g0 := hP2.c0
    have f0 := hP2.fz 0
    have f1 := hP2.fz 1
    have f2 := hP2.fz 2
    have f3 := hP2.fz 3
    have f4 := hP2.fz 4
    have f5 := hP2.fz 5
    have HF := Lib.hid (prim_set (w := w) (HA.out.trans (hb.mono HA.out.size)) (by omega) hP2 hy.out.1 hy.out.2)
    have HPS := Lib.hid (setPrim_at hP2 y)
    have g1 := hP2.c1
    have g2 := hP2.c2
    have g3 := hP2.c3
    have g4 := hP2.c4
    have g5 := hP2.c5
    clear hP2 hb hy CH
    obtain ⟨ykind, yp, yq, yat, ya1, yc1, yold, ya2, yc2, ynew⟩ := y
    go_wp2
    (try simp only [Exit.inBlock, Exit.then])
    refine bodyPost_ret (ret_prim rfl _ _ _ _ rfl HPS.out) rfl ?_
    exact HF.out
end Go.Proofs.YtempamboacbgiaaGreatDoor
