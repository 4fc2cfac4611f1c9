/- Package prim's Check. Steps of which no machine has too much; package prim's Check of them. The statements' Light of steps (layer 7). What the laws of steps hold: steps in blocks, rows of steps. Steps of a pair are not far too long, either. Rows of steps that change places: how long they are, plainly. Rows of steps, plainly: one step that comes to the front, as a row that passes it. Steps that become one, plainly, in the words of the code and of the reference. -/
import Derived.BigQuiet
import Derived.Deep.QuietTactic
import Derived.Handy
import Derived.Test.YtalabahjfmcnbaaGreatDoorShelf
import Derived.Laws.Cover1
import Derived.Sort.OwnSorted
import Derived.Deep.RegionHeld3
import Derived.Deep.DrawnRows
import Derived.Deep.RegionLaw
import Derived.Test.YtalabahjfmcnbaaGreatDoorCk07
namespace Go.Proofs.YtalabahjfmcnbaaGreatDoor
open Go.RowKit
set_option linter.unusedVariables false

theorem ckP_by (x : Pm) : ckP x.key = if formB x.kind x.dst x.at_ x.old.length x.new.length = false then 2 else if placeB x.kind x.p x.dst = false then 8 else if x.kind = 6 ∧ linedB x.at_ x.old x.new = false then 6 else 0 := by
  have hd : x.dst.data.toList = [] ↔ x.dst = ⟨#[]⟩ := ⟨fun e => by rw [← toB_of x.dst, e]; rfl, fun e => by rw [e]⟩
  have hpq : x.p.data.toList = x.dst.data.toList ↔ x.p = x.dst := ⟨bytes_inj, fun e => by rw [e]⟩
  have f1 : (x.kind < 1 ∨ 6 < x.kind ∨ (x.kind ≠ 5 ∧ x.dst.data.toList ≠ []) ∨ (x.kind ≠ 6 ∧ (x.at_ ≠ 0 ∨ 0 < x.old.length + x.new.length))) ↔ formB x.kind x.dst x.at_ x.old.length x.new.length = false := by
    unfold formB
    rw [decide_eq_false_iff_not]
    constructor
    · rintro (h | h | ⟨h, h'⟩ | ⟨h, h'⟩) ⟨⟨k1, k6⟩, h5, h6⟩
      · omega
      · omega
      · exact h' (hd.2 (h5 h))
      · have := h6 h; omega
    · intro h
      by_cases c1 : x.kind < 1
      · exact .inl c1
      by_cases c2 : 6 < x.kind
      · exact .inr (.inl c2)
      by_cases c3 : x.kind ≠ 5 ∧ x.dst.data.toList ≠ []
      · exact .inr (.inr (.inl c3))
      refine .inr (.inr (.inr ?_))
      refine Classical.byContradiction fun c4 => h ⟨⟨by omega, by omega⟩, fun e => hd.1 (Classical.byContradiction fun g => c3 ⟨e, g⟩), fun e => ?_⟩
      have : ¬ (x.at_ ≠ 0 ∨ 0 < x.old.length + x.new.length) := fun g => c4 ⟨e, g⟩
      omega
  have f2 : (names nameP x.p.data.toList = [] ∨ (x.kind = 5 ∧ (names nameP x.dst.data.toList = [] ∨ x.p.data.toList = x.dst.data.toList))) ↔ placeB x.kind x.p x.dst = false := by
    unfold placeB
    rw [decide_eq_false_iff_not]
    constructor
    · rintro (h | ⟨h, h' | h'⟩) ⟨g1, g2⟩
      · exact g1 h
      · exact (g2 h).1 h'
      · exact (g2 h).2 (hpq.1 h')
    · intro h
      by_cases c1 : names nameP x.p.data.toList = []
      · exact .inl c1
      refine .inr (Classical.byContradiction fun c2 => h ⟨c1, fun e => ⟨fun g => c2 ⟨e, .inl g⟩, fun g => c2 ⟨e, .inr (hpq.2 g)⟩⟩⟩)
  have f3 : (x.kind = 6 ∧ (x.at_ < 0 ∨ x.old.length + x.new.length = 0 ∨ checkN (toBs x.old) ≠ 0 ∨ checkN (toBs x.new) ≠ 0)) ↔ (x.kind = 6 ∧ linedB x.at_ x.old x.new = false) := by
    refine and_congr Iff.rfl ?_
    unfold linedB
    rw [decide_eq_false_iff_not]
    constructor
    · rintro (h | h | h | h) ⟨g1, g2, g3, g4⟩
      · omega
      · exact g2 ⟨by omega, by omega⟩
      · exact h g3
      · exact h g4
    · intro h
      by_cases c1 : x.at_ < 0
      · exact .inl c1
      by_cases c2 : x.old.length + x.new.length = 0
      · exact .inr (.inl c2)
      by_cases c3 : checkN (toBs x.old) ≠ 0
      · exact .inr (.inr (.inl c3))
      refine .inr (.inr (.inr fun c4 => h ⟨by omega, fun e => c2 (by omega), Classical.not_not.1 c3, c4⟩))
  unfold ckP
  exact ite_congr (propext f1) (fun _ => rfl) (fun _ => ite_congr (propext f2) (fun _ => rfl) (fun _ => ite_congr (propext f3) (fun _ => rfl) fun _ => rfl))
set_option maxHeartbeats 20000000 in
set_option maxRecDepth 100000 in
theorem pcheck_any (x : Pm) (w : World) (ok : x.Ok w w.heap.size) (hp : x.p.size ≤ 1000000) (hq : x.dst.size ≤ 1000000) (m1 : x.old.length ≤ 100000) (m2 : x.new.length ≤ 100000) (z1 : ∀ l ∈ x.old, l.length ≤ 100000) (z2 : ∀ l ∈ x.new, l.length ≤ 100000) (hT : Tabs w) :
    Calls Tryz.prog 55 #[x.val] w fun e w' => e = .returned (.int .i64 (ckP x.key)) ∧ Below w.heap.size w w' := by
  rw [ckP_by]
  obtain ⟨kind, p, q, at_, a1, c1, old, a2, c2, new⟩ := x
  unfold Pm.val
  simp only [] at hp hq m1 m2 z1 z2 ⊢
  have hal : Below w.heap.size w (w.alloc (.cells #[.int .i64 kind, .string p, .string q, .int .i64 at_, .slice a1 old.length c1, .slice a2 new.length c2] 33)) := (Below.refl _ _).alloc (Nat.le_refl _) _
  have HP : Hid (PAt (w.alloc (.cells #[.int .i64 kind, .string p, .string q, .int .i64 at_, .slice a1 old.length c1, .slice a2 new.length c2] 33)) w.heap.size kind p q at_ a1 old.length c1 a2 new.length c2) := PAt.new_ w kind p q at_ a1 old.length c1 a2 new.length c2
  have HA := Lib.hid hal
  clear hal
  have b0 := HP.out.k0
  have b1 := HP.out.k1
  have b2 := HP.out.k2
  have b3 := HP.out.k3
  have b4 := HP.out.k4
  have b5 := HP.out.k5
  have HO := Lib.hid (ok.on HA.out)
  have HT := Lib.hid (Tabs.on hT HA.out)
  have CF := Lib.hid (fun b hb W => formed_any kind p q at_ a1 old.length c1 a2 new.length c2 W b hb)
  have CP := Lib.hid (fun b hb W => placed_any kind p q at_ a1 old.length c1 a2 new.length c2 W hp hq b hb)
  have CL := Lib.hid (fun b hr W (hb : Below (w.alloc (.cells #[.int .i64 kind, .string p, .string q, .int .i64 at_, .slice a1 old.length c1, .slice a2 new.length c2] 33)).heap.size (w.alloc (.cells #[.int .i64 kind, .string p, .string q, .int .i64 at_, .slice a1 old.length c1, .slice a2 new.length c2] 33)) W) => lined_any kind p q at_ a1 c1 old a2 c2 new W (HO.out.h.on hb) m1 m2 z1 z2 (Tabs.on HT.out hb) b hr)
  clear ok hT z1 z2 hp hq
  cases hf : formB kind q at_ old.length new.length
  · have C1 := Lib.hid (CF.out _ hf)
    clear CF CP CL hf
    rw [if_pos rfl]
    go_enter Tryz.func55, Tryz.ntmps55
    go_wp2_with fail
    refine (C1.out _).mono ?_
    rintro e w1 ⟨rfl, hb⟩
    have HB1 := Lib.hid hb
    clear hb b0 b1 b2 b3 b4 b5
    have b0 := (HP.out.on HB1.out).k0
    have b1 := (HP.out.on HB1.out).k1
    have b2 := (HP.out.on HB1.out).k2
    have b3 := (HP.out.on HB1.out).k3
    have b4 := (HP.out.on HB1.out).k4
    have b5 := (HP.out.on HB1.out).k5
    go_wp2
    go_ret
    exact ⟨rfl, HA.out.trans (HB1.out.mono HA.out.size)⟩
  · have C1 := Lib.hid (CF.out _ hf)
    rw [if_neg (by simp)]
    cases hpl : placeB kind p q
    · have C2 := Lib.hid (CP.out _ hpl)
      clear CF CP CL hf hpl
      rw [if_pos rfl]
      go_enter Tryz.func55, Tryz.ntmps55
      go_wp2_with fail
      refine (C1.out _).mono ?_
      rintro e w1 ⟨rfl, hb⟩
      have HB1 := Lib.hid hb
      clear hb b0 b1 b2 b3 b4 b5
      have b0 := (HP.out.on HB1.out).k0
      have b1 := (HP.out.on HB1.out).k1
      have b2 := (HP.out.on HB1.out).k2
      have b3 := (HP.out.on HB1.out).k3
      have b4 := (HP.out.on HB1.out).k4
      have b5 := (HP.out.on HB1.out).k5
      go_wp2_with fail
      refine (C2.out _).mono ?_
      rintro e w2 ⟨rfl, hb⟩
      have HB2 := Lib.hid ((HB1.out).trans (hb.mono (HB1.out).size))
      clear hb b0 b1 b2 b3 b4 b5
      have b0 := (HP.out.on HB2.out).k0
      have b1 := (HP.out.on HB2.out).k1
      have b2 := (HP.out.on HB2.out).k2
      have b3 := (HP.out.on HB2.out).k3
      have b4 := (HP.out.on HB2.out).k4
      have b5 := (HP.out.on HB2.out).k5
      go_wp2
      go_ret
      exact ⟨rfl, HA.out.trans (HB2.out.mono HA.out.size)⟩
    · have C2 := Lib.hid (CP.out _ hpl)
      clear CF CP hf hpl
      rw [if_neg (by simp)]
      by_cases hk : kind = 6
      · subst hk
        cases hl : linedB at_ old new
        · have C3 := Lib.hid (CL.out _ hl)
          clear CL hl
          rw [if_pos ⟨rfl, rfl⟩]
          go_enter Tryz.func55, Tryz.ntmps55
          go_wp2_with fail
          refine (C1.out _).mono ?_
          rintro e w1 ⟨rfl, hb⟩
          have HB1 := Lib.hid hb
          clear hb b0 b1 b2 b3 b4 b5
          have b0 := (HP.out.on HB1.out).k0
          have b1 := (HP.out.on HB1.out).k1
          have b2 := (HP.out.on HB1.out).k2
          have b3 := (HP.out.on HB1.out).k3
          have b4 := (HP.out.on HB1.out).k4
          have b5 := (HP.out.on HB1.out).k5
          go_wp2_with fail
          refine (C2.out _).mono ?_
          rintro e w2 ⟨rfl, hb⟩
          have HB2 := Lib.hid ((HB1.out).trans (hb.mono (HB1.out).size))
          clear hb b0 b1 b2 b3 b4 b5
          have b0 := (HP.out.on HB2.out).k0
          have b1 := (HP.out.on HB2.out).k1
          have b2 := (HP.out.on HB2.out).k2
          have b3 := (HP.out.on HB2.out).k3
          have b4 := (HP.out.on HB2.out).k4
          have b5 := (HP.out.on HB2.out).k5
          go_wp2_with fail
          refine (C3.out _ HB2.out).mono ?_
          rintro e w3 ⟨rfl, hb⟩
          have HB3 := Lib.hid ((HB2.out).trans (hb.mono (HB2.out).size))
          clear hb b0 b1 b2 b3 b4 b5
          have b0 := (HP.out.on HB3.out).k0
          have b1 := (HP.out.on HB3.out).k1
          have b2 := (HP.out.on HB3.out).k2
          have b3 := (HP.out.on HB3.out).k3
          have b4 := (HP.out.on HB3.out).k4
          have b5 := (HP.out.on HB3.out).k5
          go_wp2
          go_ret
          exact ⟨rfl, HA.out.trans (HB3.out.mono HA.out.size)⟩
        · have C3 := Lib.hid (CL.out _ hl)
          clear CL hl
          rw [if_neg (by simp)]
          go_enter Tryz.func55, Tryz.ntmps55
          go_wp2_with fail
          refine (C1.out _).mono ?_
          rintro e w1 ⟨rfl, hb⟩
          have HB1 := Lib.hid hb
          clear hb b0 b1 b2 b3 b4 b5
          have b0 := (HP.out.on HB1.out).k0
          have b1 := (HP.out.on HB1.out).k1
          have b2 := (HP.out.on HB1.out).k2
          have b3 := (HP.out.on HB1.out).k3
          have b4 := (HP.out.on HB1.out).k4
          have b5 := (HP.out.on HB1.out).k5
          go_wp2_with fail
          refine (C2.out _).mono ?_
          rintro e w2 ⟨rfl, hb⟩
          have HB2 := Lib.hid ((HB1.out).trans (hb.mono (HB1.out).size))
          clear hb b0 b1 b2 b3 b4 b5
          have b0 := (HP.out.on HB2.out).k0
          have b1 := (HP.out.on HB2.out).k1
          have b2 := (HP.out.on HB2.out).k2
          have b3 := (HP.out.on HB2.out).k3
          have b4 := (HP.out.on HB2.out).k4
          have b5 := (HP.out.on HB2.out).k5
          go_wp2_with fail
          refine (C3.out _ HB2.out).mono ?_
          rintro e w3 ⟨rfl, hb⟩
          have HB3 := Lib.hid ((HB2.out).trans (hb.mono (HB2.out).size))
          clear hb b0 b1 b2 b3 b4 b5
          have b0 := (HP.out.on HB3.out).k0
          have b1 := (HP.out.on HB3.out).k1
          have b2 := (HP.out.on HB3.out).k2
          have b3 := (HP.out.on HB3.out).k3
          have b4 := (HP.out.on HB3.out).k4
          have b5 := (HP.out.on HB3.out).k5
          go_wp2
          go_ret
          exact ⟨rfl, HA.out.trans (HB3.out.mono HA.out.size)⟩
      · have hk2 : (kind == 6) = false := by simpa using hk
        rw [if_neg (fun h => hk h.1)]
        clear CL hk
        go_enter Tryz.func55, Tryz.ntmps55
        go_wp2_with fail
        refine (C1.out _).mono ?_
        rintro e w1 ⟨rfl, hb⟩
        have HB1 := Lib.hid hb
        clear hb b0 b1 b2 b3 b4 b5
        have b0 := (HP.out.on HB1.out).k0
        have b1 := (HP.out.on HB1.out).k1
        have b2 := (HP.out.on HB1.out).k2
        have b3 := (HP.out.on HB1.out).k3
        have b4 := (HP.out.on HB1.out).k4
        have b5 := (HP.out.on HB1.out).k5
        go_wp2_with fail
        refine (C2.out _).mono ?_
        rintro e w2 ⟨rfl, hb⟩
        have HB2 := Lib.hid ((HB1.out).trans (hb.mono (HB1.out).size))
        clear hb b0 b1 b2 b3 b4 b5
        have b0 := (HP.out.on HB2.out).k0
        have b1 := (HP.out.on HB2.out).k1
        have b2 := (HP.out.on HB2.out).k2
        have b3 := (HP.out.on HB2.out).k3
        have b4 := (HP.out.on HB2.out).k4
        have b5 := (HP.out.on HB2.out).k5
        go_wp2
        go_ret
        exact ⟨rfl, HA.out.trans (HB2.out.mono HA.out.size)⟩
end Go.Proofs.YtalabahjfmcnbaaGreatDoor
namespace Go.Proofs.YtalabahjfmcnbaaGreatDoor
open Go.RowKit
set_option linter.unusedVariables false

/-- A step of which no machine has too much. -/
structure WdK (k : Pk) : Prop where
  p : k.path.length ≤ 1000000
  q : k.dst.length ≤ 1000000
  old : WideK k.old
  new : WideK k.new
theorem WdK.zero : WdK zeroP := ⟨Nat.zero_le _, Nat.zero_le _, ⟨Nat.zero_le _, fun x h => by cases h⟩, ⟨Nat.zero_le _, fun x h => by cases h⟩⟩
theorem check_w {x : Pm} {w : World} (ok : x.Ok w w.heap.size) (h : WdK x.key) (hT : Tabs w) : Calls Tryz.prog 55 #[x.val] w fun e w' => e = .returned (.int .i64 (ckP x.key)) ∧ Below w.heap.size w w' :=
  pcheck_any x w ok h.p h.q h.old.1 h.new.1 h.old.2 h.new.2 hT
end Go.Proofs.YtalabahjfmcnbaaGreatDoor
namespace Go.Proofs.YtalabahjfmcnbaaGreatDoor
open Go.RowKit
set_option linter.unusedVariables false

theorem light3_facts {ls : List (List UInt8)} (h : light3B (toBs ls) = true) : LightK ls := by
  refine ⟨by have := light3B_len h; rwa [toBs_len] at this, fun x hx => ?_⟩
  unfold light3B at h
  rw [Bool.and_eq_true, List.all_eq_true] at h
  have := h.1 (toB x) (List.mem_map.2 ⟨x, hx, rfl⟩)
  rw [decide_eq_true_eq, toB_size] at this
  exact this
def light7One (x : Pm) : Bool := decide (x.p.size ≤ 300) && decide (x.dst.size ≤ 300) && light3B (toBs x.old) && light3B (toBs x.new)
def light7B (l : List Pm) : Bool := l.all light7One && decide (l.length ≤ 40)
theorem light7_no {l : List Pm} {k : Nat} (hk : k < l.length) (h : light7One l[k] = false) : light7B l = false := by
  have : l.all light7One = false := by
    rw [List.all_eq_false]
    exact ⟨l[k], List.getElem_mem _, by rw [h]; simp⟩
  simp [light7B, this]
theorem light7_yes {l : List Pm} (h : ∀ j (hj : j < l.length), light7One l[j] = true) : light7B l = decide (l.length ≤ 40) := by
  have : l.all light7One = true := by
    rw [List.all_eq_true]
    intro s hs
    obtain ⟨j, hj, rfl⟩ := List.getElem_of_mem hs
    exact h j hj
  simp [light7B, this]
theorem light7_facts {l : List Pm} (h : light7B l = true) : l.length ≤ 40 ∧ ∀ x ∈ l, light7One x = true := by
  unfold light7B at h
  rw [Bool.and_eq_true, List.all_eq_true] at h
  exact ⟨by simpa using h.2, h.1⟩
theorem light7_light {x : Pm} (h : light7One x = true) : x.Light := by
  unfold light7One at h
  simp only [Bool.and_eq_true, decide_eq_true_eq] at h
  exact ⟨h.1.1.1, h.1.1.2, light3_facts h.1.2, light3_facts h.2⟩
set_option maxHeartbeats 4000000 in
set_option maxRecDepth 100000 in
theorem light7_any (A : Option Addr) (l : List Pm) (cap : Nat) (w : World) (hk : Ps w w.heap.size A l) (hn : l.length ≤ 9223372036854775807) :
    Calls Tryz.prog 6 #[.slice A l.length cap] w fun e w' => e = .returned (.bool (light7B l)) ∧ w = w' := by
  have HK := Lib.hid hk
  clear hk
  go_enter Tryz.func6, Tryz.ntmps6
  go_wp2
  go_loop [3] (fun i => ∃ k : Nat, k ≤ l.length ∧ i = .int .i64 (k : Int) ∧ Hid (∀ j (hj : j < l.length), j < k → light7One l[j] = true)) (fun i => l.length - (intOf i).toNat)
  case atStart => exact ⟨0, Nat.zero_le _, rfl, fun j _ h => absurd h (by omega)⟩
  case round =>
    obtain ⟨k, hk, rfl, hall⟩ := hrel
    by_cases hlt : k < l.length
    · obtain ⟨b, off, rfl, _, h1, h2, h3, h4, h5, h6⟩ := HK.out.get hlt
      have ok := HK.out.ok l[k] (List.getElem_mem _)
      have c1 := light3_any l[k].a1 (toBs l[k].old) l[k].c1 w ok.h.old (by rw [toBs_len]; exact ok.h.n1)
      have c2 := light3_any l[k].a2 (toBs l[k].new) l[k].c2 w ok.h.new (by rw [toBs_len]; exact ok.h.n2)
      rw [toBs_len] at c1 c2
      have hno := Lib.hid (light7_no hlt)
      have hyes : Hid (light7One l[k] = true → ∀ j (hj : j < l.length), j < k + 1 → light7One l[j] = true) := by
        intro h j hj hjk
        by_cases he : j = k
        · subst he; exact h
        · exact hall.out j hj (by omega)
      have hone : Hid (light7One l[k] = (decide (l[k].p.size ≤ 300) && decide (l[k].dst.size ≤ 300) && light3B (toBs l[k].old) && light3B (toBs l[k].new))) := rfl
      generalize light3B (toBs l[k].old) = d1 at *
      generalize light3B (toBs l[k].new) = d2 at *
      generalize l[k].p = p at *
      generalize l[k].dst = q at *
      have C1 := Lib.hid c1
      have C2 := Lib.hid c2
      clear c1 c2 ok hall
      generalize l[k].old.length = m1 at *
      generalize l[k].new.length = m2 at *
      by_cases hp : 300 < p.size
      · have hfin := Lib.hid (hno.out (by rw [hone.out, decide_eq_false (by omega)]; rfl))
        clear C1 C2
        clear hno hyes hone
        go_wp2
        go_ret
        rw [hfin.out]
        exact ⟨rfl, rfl⟩
      · have hp2 : p.size ≤ 300 := by omega
        by_cases hq : 300 < q.size
        · have hfin := Lib.hid (hno.out (by rw [hone.out, decide_eq_true hp2, decide_eq_false (by omega)]; rfl))
          clear C1 C2
          clear hno hyes hone
          go_wp2
          go_ret
          rw [hfin.out]
          exact ⟨rfl, rfl⟩
        · have hq2 : q.size ≤ 300 := by omega
          cases d1
          · have hfin := Lib.hid (hno.out (by rw [hone.out, Bool.and_false]; rfl))
            clear hno hyes hone C2
            go_wp2_with fail
            refine C1.out.mono ?_
            rintro e w' ⟨rfl, rfl⟩
            go_wp2
            go_ret
            rw [hfin.out]
            exact ⟨rfl, rfl⟩
          · cases d2
            · have hfin := Lib.hid (hno.out (by rw [hone.out, Bool.and_false]))
              clear hno hyes hone
              go_wp2_with fail
              refine C1.out.mono ?_
              rintro e w' ⟨rfl, rfl⟩
              go_wp2_with fail
              refine C2.out.mono ?_
              rintro e w' ⟨rfl, rfl⟩
              go_wp2
              go_ret
              rw [hfin.out]
              exact ⟨rfl, rfl⟩
            · have hnew := Lib.hid (hyes.out (by rw [hone.out, decide_eq_true hp2, decide_eq_true hq2]; rfl))
              clear hno hyes hone
              go_wp2_with fail
              refine C1.out.mono ?_
              rintro e w' ⟨rfl, rfl⟩
              go_wp2_with fail
              refine C2.out.mono ?_
              rintro e w' ⟨rfl, rfl⟩
              go_wp2
              go_round
              case rel => exact ⟨k + 1, by omega, by go_num, hnew⟩
              case measure => simp [intOf]; omega
    · have hk2 : k = l.length := by omega
      subst hk2
      have hy := Lib.hid (light7_yes (fun j hj => hall.out j hj hj))
      clear hall
      go_wp2
      go_ret
      rw [hy.out]
      exact ⟨by simp; omega, rfl⟩
end Go.Proofs.YtalabahjfmcnbaaGreatDoor
namespace Go.Proofs.YtalabahjfmcnbaaGreatDoor
open Go.RowKit
set_option linter.unusedVariables false

/-- A step that is not far too long. -/
structure LtK (k : Pk) : Prop where
  p : k.path.length ≤ 300
  q : k.dst.length ≤ 300
  old : LightK k.old
  new : LightK k.new
theorem LtK.wd {k : Pk} (h : LtK k) : WdK k := ⟨Nat.le_trans h.p (by decide), Nat.le_trans h.q (by decide), h.old.wide, h.new.wide⟩
theorem LtK.zero : LtK zeroP := ⟨Nat.zero_le _, Nat.zero_le _, ⟨Nat.zero_le _, fun x h => by cases h⟩, ⟨Nat.zero_le _, fun x h => by cases h⟩⟩
theorem light_lt {x : Pm} (h : x.Light) : LtK x.key := ⟨h.p, h.q, h.old, h.new⟩
/-- A step in a block of its own, its lines below. -/
def HeldP (w : World) (g : Nat) (x : Pm) : Prop := PrimAt w g x ∧ x.Ok w w.heap.size
theorem HeldP.on {w w' : World} {g : Nat} {x : Pm} (h : HeldP w g x) (hb : Below w.heap.size w w') : HeldP w' g x := ⟨h.1.on hb, h.2.on hb⟩
theorem row_two {w : World} {x y : Pm} (ox : x.Ok w w.heap.size) (oy : y.Ok w w.heap.size) : Ps (w.alloc (.cells #[.int .i64 x.kind, .string x.p, .string x.dst, .int .i64 x.at_, .slice x.a1 x.old.length x.c1, .slice x.a2 x.new.length x.c2, .int .i64 y.kind, .string y.p, .string y.dst, .int .i64 y.at_, .slice y.a1 y.old.length y.c1, .slice y.a2 y.new.length y.c2] 33)) (w.alloc (.cells #[.int .i64 x.kind, .string x.p, .string x.dst, .int .i64 x.at_, .slice x.a1 x.old.length x.c1, .slice x.a2 x.new.length x.c2, .int .i64 y.kind, .string y.p, .string y.dst, .int .i64 y.at_, .slice y.a1 y.old.length y.c1, .slice y.a2 y.new.length y.c2] 33)).heap.size (some ⟨w.heap.size, 0, none⟩) [x, y] := by
  rw [World.size_alloc]
  exact ps_new (ps := [x, y]) fun z hz => by
    simp only [List.mem_cons, List.not_mem_nil, or_false] at hz
    rcases hz with rfl | rfl
    · exact ox
    · exact oy
theorem row_three {w : World} {x y z : Pm} (ox : x.Ok w w.heap.size) (oy : y.Ok w w.heap.size) (oz : z.Ok w w.heap.size) : Ps (w.alloc (.cells #[.int .i64 x.kind, .string x.p, .string x.dst, .int .i64 x.at_, .slice x.a1 x.old.length x.c1, .slice x.a2 x.new.length x.c2, .int .i64 y.kind, .string y.p, .string y.dst, .int .i64 y.at_, .slice y.a1 y.old.length y.c1, .slice y.a2 y.new.length y.c2, .int .i64 z.kind, .string z.p, .string z.dst, .int .i64 z.at_, .slice z.a1 z.old.length z.c1, .slice z.a2 z.new.length z.c2] 33)) (w.alloc (.cells #[.int .i64 x.kind, .string x.p, .string x.dst, .int .i64 x.at_, .slice x.a1 x.old.length x.c1, .slice x.a2 x.new.length x.c2, .int .i64 y.kind, .string y.p, .string y.dst, .int .i64 y.at_, .slice y.a1 y.old.length y.c1, .slice y.a2 y.new.length y.c2, .int .i64 z.kind, .string z.p, .string z.dst, .int .i64 z.at_, .slice z.a1 z.old.length z.c1, .slice z.a2 z.new.length z.c2] 33)).heap.size (some ⟨w.heap.size, 0, none⟩) [x, y, z] := by
  rw [World.size_alloc]
  exact ps_new (ps := [x, y, z]) fun u hu => by
    simp only [List.mem_cons, List.not_mem_nil, or_false] at hu
    rcases hu with rfl | rfl | rfl
    · exact ox
    · exact oy
    · exact oz
end Go.Proofs.YtalabahjfmcnbaaGreatDoor
namespace Go.Proofs.YtalabahjfmcnbaaGreatDoor
open Go.RowKit
set_option linter.unusedVariables false

theorem shift_lt {p q : Pk} {r : Pk × Pk} (hp : LtK p) (hq : LtK q) (h : shiftP p q = some r) : LtK r.1 ∧ LtK r.2 := by
  unfold shiftP at h
  split at h
  · cases h
    exact ⟨⟨hq.p, hq.q, hq.old, hq.new⟩, hp⟩
  · split at h
    · cases h
      exact ⟨hq, ⟨hp.p, hp.q, hp.old, hp.new⟩⟩
    · cases h
theorem pair_lt {p q b a : Pk} {n : Int} (hp : LtK p) (hq : LtK q) (h : pairP p q = (n, b, a)) : LtK b ∧ LtK a := by
  unfold pairP at h
  split at h
  · cases h
    exact ⟨LtK.zero, LtK.zero⟩
  split at h
  · cases h
    exact ⟨LtK.zero, LtK.zero⟩
  split at h
  · cases hs : shiftP p q with
    | none =>
      rw [hs] at h
      cases h
      exact ⟨LtK.zero, LtK.zero⟩
    | some r =>
      rw [hs] at h
      cases h
      exact shift_lt hp hq hs
  split at h
  · cases h
    exact ⟨⟨hp.p, hq.q, hq.old, hq.new⟩, hp⟩
  split at h
  · cases h
    exact ⟨hq, ⟨hq.q, hp.q, hp.old, hp.new⟩⟩
  split at h
  · cases h
    exact ⟨hq, hp⟩
  · cases h
    exact ⟨LtK.zero, LtK.zero⟩
end Go.Proofs.YtalabahjfmcnbaaGreatDoor
namespace Go.Proofs.YtalabahjfmcnbaaGreatDoor
open Go.RowKit
set_option linter.unusedVariables false

theorem past_lt : ∀ (l : List Pk) {p q : Pk} {out : List Pk} {n : Int}, LtK p → (∀ x ∈ l, LtK x) → pastP p l = (n, out, q) → LtK q ∧ (∀ x ∈ out, LtK x) ∧ out.length ≤ l.length ∧ (n = 0 → out.length = l.length)
  | [], p, q, out, n, hp, hl, h => by
    unfold pastP at h
    simp only [Prod.mk.injEq] at h
    obtain ⟨rfl, rfl, rfl⟩ := h
    exact ⟨hp, (fun x hx => by cases hx), Nat.le_refl _, fun _ => rfl⟩
  | x :: l, p, q, out, n, hp, hl, h => by
    unfold pastP at h
    obtain ⟨k, b, a, e⟩ : ∃ k b a, pairP p x = (k, b, a) := ⟨_, _, _, rfl⟩
    obtain ⟨h1, h2⟩ := pair_lt hp (hl x (by simp)) e
    rw [e] at h
    simp only at h
    split at h
    · simp only [Prod.mk.injEq] at h
      obtain ⟨rfl, rfl, rfl⟩ := h
      exact ⟨LtK.zero, (fun x hx => by cases hx), Nat.zero_le _, fun e => absurd e (by assumption)⟩
    · obtain ⟨m, o, r, e2⟩ : ∃ m o r, pastP a l = (m, o, r) := ⟨_, _, _, rfl⟩
      obtain ⟨i1, i2, i3, i4⟩ := past_lt l h2 (fun z hz => hl z (by simp [hz])) e2
      rw [e2] at h
      simp only at h
      split at h
      · simp only [Prod.mk.injEq] at h
        obtain ⟨rfl, rfl, rfl⟩ := h
        exact ⟨LtK.zero, (fun x hx => by cases hx), Nat.zero_le _, fun e => absurd e (by assumption)⟩
      · rename_i hm
        simp only [ne_eq, Decidable.not_not] at hm
        simp only [Prod.mk.injEq] at h
        obtain ⟨rfl, rfl, rfl⟩ := h
        refine ⟨i1, fun z hz => ?_, by simp only [List.length_cons]; omega, fun _ => by simp only [List.length_cons]; rw [i4 hm]⟩
        rcases List.mem_cons.1 hz with rfl | hz
        · exact h1
        · exact i2 z hz
theorem rows_lt : ∀ (a : List Pk) {b x y : List Pk} {n : Int}, (∀ z ∈ a, LtK z) → (∀ z ∈ b, LtK z) → rowsP a b = (n, x, y) → (∀ z ∈ x, LtK z) ∧ (∀ z ∈ y, LtK z) ∧ x.length ≤ b.length ∧ y.length ≤ a.length
  | [], b, x, y, n, ha, hb, h => by
    unfold rowsP at h
    simp only [Prod.mk.injEq] at h
    obtain ⟨rfl, rfl, rfl⟩ := h
    exact ⟨hb, (fun z hz => by cases hz), Nat.le_refl _, Nat.le_refl _⟩
  | p :: a, b, x, y, n, ha, hb, h => by
    unfold rowsP at h
    obtain ⟨k, u, v, e⟩ : ∃ k u v, rowsP a b = (k, u, v) := ⟨_, _, _, rfl⟩
    obtain ⟨i1, i2, i3, i4⟩ := rows_lt a (fun z hz => ha z (by simp [hz])) hb e
    rw [e] at h
    simp only at h
    split at h
    · simp only [Prod.mk.injEq] at h
      obtain ⟨rfl, rfl, rfl⟩ := h
      exact ⟨(fun z hz => by cases hz), (fun z hz => by cases hz), Nat.zero_le _, Nat.zero_le _⟩
    · obtain ⟨m, o, r, e2⟩ : ∃ m o r, pastP p u = (m, o, r) := ⟨_, _, _, rfl⟩
      obtain ⟨j1, j2, j3, _⟩ := past_lt u (ha p (by simp)) i1 e2
      rw [e2] at h
      simp only at h
      split at h
      · simp only [Prod.mk.injEq] at h
        obtain ⟨rfl, rfl, rfl⟩ := h
        exact ⟨(fun z hz => by cases hz), (fun z hz => by cases hz), Nat.zero_le _, Nat.zero_le _⟩
      · simp only [Prod.mk.injEq] at h
        obtain ⟨rfl, rfl, rfl⟩ := h
        refine ⟨j2, fun z hz => ?_, by omega, by simp only [List.length_cons]; omega⟩
        rcases List.mem_cons.1 hz with rfl | hz
        · exact j1
        · exact i2 z hz
end Go.Proofs.YtalabahjfmcnbaaGreatDoor
namespace Go.Proofs.YtalabahjfmcnbaaGreatDoor
open Go.RowKit
set_option linter.unusedVariables false

theorem rows_one (p : Pk) (b : List Pk) : rowsP [p] b = if (pastP p b).1 ≠ 0 then ((pastP p b).1, [], []) else (0, (pastP p b).2.1, [(pastP p b).2.2]) := by
  unfold rowsP rowsP
  simp only [ne_eq, not_true_eq_false, if_false]
theorem past_one (p x : Pk) : pastP p [x] = if (pairP p x).1 ≠ 0 then ((pairP p x).1, [], zeroP) else (0, [(pairP p x).2.1], (pairP p x).2.2) := by
  unfold pastP pastP
  simp only [ne_eq, not_true_eq_false, if_false]
/-- The step that stands farthest ahead is passed last. -/
theorem ahead_last : ∀ (rs : List Pk) (p x : Pk), aheadP (rs ++ [p]) x = if (aheadP rs x).1 ≠ 0 then ((aheadP rs x).1, zeroP, []) else if (pairP p (aheadP rs x).2.1).1 ≠ 0 then ((pairP p (aheadP rs x).2.1).1, zeroP, []) else (0, (pairP p (aheadP rs x).2.1).2.1, (pairP p (aheadP rs x).2.1).2.2 :: (aheadP rs x).2.2)
  | [], p, x => by
    simp only [List.nil_append, aheadP, ne_eq, not_true_eq_false, if_false]
    rfl
  | r :: rs, p, x => by
    have ih := ahead_last rs p (pairP r x).2.1
    rw [List.cons_append]
    unfold aheadP
    obtain ⟨n, b, a, e⟩ : ∃ n b a, pairP r x = (n, b, a) := ⟨_, _, _, rfl⟩
    rw [e] at ih ⊢
    simp only at ih ⊢
    by_cases hn : n = 0
    · subst hn
      simp only [ne_eq, not_true_eq_false, if_false]
      rw [ih]
      obtain ⟨m, y, o, e2⟩ : ∃ m y o, aheadP rs b = (m, y, o) := ⟨_, _, _, rfl⟩
      rw [e2]
      simp only
      by_cases hm : m = 0
      · subst hm
        simp only [ne_eq, not_true_eq_false, if_false]
        by_cases hk : (pairP p y).1 = 0
        · simp [hk]
        · simp [hk]
      · simp [hm]
    · simp [hn]
/-- A row that passes one step: the step comes tp the front of the row. -/
theorem rows_ahead : ∀ (a : List Pk) (x : Pk), rowsP a [x] = if (aheadP a.reverse x).1 ≠ 0 then ((aheadP a.reverse x).1, [], []) else (0, [(aheadP a.reverse x).2.1], (aheadP a.reverse x).2.2)
  | [], x => by simp [rowsP, aheadP]
  | p :: a, x => by
    have ih := rows_ahead a x
    rw [List.reverse_cons, ahead_last]
    unfold rowsP
    rw [ih]
    obtain ⟨n, y, o, e⟩ : ∃ n y o, aheadP a.reverse x = (n, y, o) := ⟨_, _, _, rfl⟩
    rw [e]
    simp only
    by_cases hn : n = 0
    · subst hn
      simp only [ne_eq, not_true_eq_false, if_false]
      rw [past_one]
      by_cases hk : (pairP p y).1 = 0
      · simp [hk]
      · simp [hk]
    · simp [hn]
/-- What 'brought' tells: step i stands at a place not behind it. -/
def broughtP (l : List Pk) (i tp : Nat) (x : Pk) : Int × List Pk := match rowsP ((l.take i).drop tp) [x] with
  | (n, u, v) => if n ≠ 0 then (n, []) else (0, l.take tp ++ u ++ v ++ l.drop (i + 1))
theorem front_brought {l : List Pk} {i : Nat} (h : i < l.length) : frontP l i = broughtP l i 0 l[i] := by
  unfold frontP broughtP
  rw [dif_pos h, List.drop_zero, rows_ahead]
  obtain ⟨n, y, o, e⟩ : ∃ n y o, aheadP (l.take i).reverse l[i] = (n, y, o) := ⟨_, _, _, rfl⟩
  rw [e]
  by_cases hn : n = 0
  · subst hn
    simp
  · simp [hn]
end Go.Proofs.YtalabahjfmcnbaaGreatDoor
namespace Go.Proofs.YtalabahjfmcnbaaGreatDoor
open Go.RowKit
set_option linter.unusedVariables false

/-- A step that comes of light ones. -/
structure FzK (k : Pk) : Prop where
  p : k.path.length ≤ 300
  q : k.dst.length ≤ 300
  old : MidK k.old
  new : MidK k.new
  hi : k.at_ ≤ 1099511627776
end Go.Proofs.YtalabahjfmcnbaaGreatDoor
