/- The statements' Light of hunks (layer 4). What package diff's calls are to do, as words: each is proved of the landed code. Package diff's Check. Words for a step's cells. Package prim's bare, formed. -/
import Derived.Test.YtaepfahpbnpeiaaGreatDoorCk20
import Derived.Test.YtaepfahpbnpeiaaGreatDoorCk24
import Derived.Test.YtaepfahpbnpeiaaGreatDoorCk22
import Derived.Test.YtaepfahpbnpeiaaGreatDoorCk16
import Derived.Test.YtaepfahpbnpeiaaGreatDoorCk07
namespace Go.Proofs.YtaepfahpbnpeiaaGreatDoor
open Go.RowKit
set_option linter.unusedVariables false

def lightOne (h : Hm) : Bool := light3B (toBs h.old) && light3B (toBs h.new)
def light4B (hs : List Hm) : Bool := hs.all lightOne && decide (hs.length ≤ 30)
theorem light4_no {hs : List Hm} {k : Nat} (hk : k < hs.length) (h : lightOne hs[k] = false) : light4B hs = false := by
  have : hs.all lightOne = false := by
    rw [List.all_eq_false]
    exact ⟨hs[k], List.getElem_mem _, by rw [h]; simp⟩
  simp [light4B, this]
theorem light4_yes {hs : List Hm} (h : ∀ j (hj : j < hs.length), lightOne hs[j] = true) : light4B hs = decide (hs.length ≤ 30) := by
  have : hs.all lightOne = true := by
    rw [List.all_eq_true]
    intro s hs
    obtain ⟨j, hj, rfl⟩ := List.getElem_of_mem hs
    exact h j hj
  simp [light4B, this]
theorem light4_facts {hs : List Hm} (h : light4B hs = true) : hs.length ≤ 30 ∧ ∀ h ∈ hs, light3B (toBs h.old) = true ∧ light3B (toBs h.new) = true := by
  unfold light4B at h
  rw [Bool.and_eq_true, List.all_eq_true] at h
  refine ⟨by simpa using h.2, fun x hx => ?_⟩
  have := h.1 x hx
  unfold lightOne at this
  rwa [Bool.and_eq_true] at this

end Go.Proofs.YtaepfahpbnpeiaaGreatDoor
namespace Go.Proofs.YtaepfahpbnpeiaaGreatDoor
open Go.RowKit
set_option linter.unusedVariables false

/-- The error of hunks done. -/
def applE (la : List (List UInt8)) (hs : List Hm) : Int := if mayB hs then (if standB la hs then 0 else 13) else 6
/-- What Invert leaves. -/
def InvTold (w : World) (hs : List Hm) (e : Ending) (w' : World) : Prop :=
  ∃ A cap ks, e = .returned (.slice A (List.length (α := Hm) ks) cap) ∧ ((mayB hs = true → plains ks = inv 0 0 (plains hs) ∧ ∀ h ∈ ks, 0 ≤ h.at_) ∧ (mayB hs = false → ks = [])) ∧ Room A ks.length cap ∧ Hks w' w'.heap.size A ks ∧ Below w.heap.size w w'
def ApplyC : Prop := ∀ (A A2 : Option Addr) (la : List (List UInt8)) (hs : List Hm) (cap cap2 : Nat) (w : World), Strs w w.heap.size A (toBs la) → Room A la.length cap → Hks w w.heap.size A2 hs → Room A2 hs.length cap2 → Small hs → hs.length ≤ 1000 → la.length + sumNew (plains hs) ≤ 300000 →
  Calls Tryz.prog 105 #[.slice A la.length cap, .slice A2 hs.length cap2] w (Told w (refApp la (plains hs)) (applE la hs))
def CheckC : Prop := ∀ (A : Option Addr) (hs : List Hm) (cap : Nat) (w : World), Hks w w.heap.size A hs → Room A hs.length cap → Small hs → hs.length ≤ 1000 →
  Calls Tryz.prog 79 #[.slice A hs.length cap] w fun e w' => e = .returned (.int .i64 (if mayB hs then 0 else 6)) ∧ Below w.heap.size w w'
theorem may_of : ∀ (hs : List Hm) (e : Option Int), (∀ h ∈ hs, 0 ≤ h.at_) → May (plains hs) → (∀ x ∈ e, From (x + 1).toNat (plains hs) ∧ -1 ≤ x) → mayF e hs = true
  | [], _, _, _, _ => rfl
  | h :: l, e, hp, hm, hf => by
    have h0 := hp h (by simp)
    obtain ⟨m1, m2, m3⟩ := hm
    have ih := may_of l (some (h.at_ + h.old.length)) (fun x hx => hp x (List.mem_cons_of_mem _ hx)) m3 (fun x hx => by
      cases hx
      refine ⟨?_, by omega⟩
      have e2 : (h.at_ + (h.old.length : Int) + 1).toNat = h.plain.at_ + h.plain.old.length + 1 := by simp only [Hm.plain]; omega
      rw [e2]
      exact m2)
    rw [mayF, ih, Bool.and_true]
    unfold okAt
    rw [decide_eq_true_eq]
    refine ⟨h0, fun hz => ?_, fun x hx => ?_⟩
    · rcases m1 with m1 | m1
      · exact m1 (List.length_eq_zero_iff.1 hz.1)
      · exact m1 (List.length_eq_zero_iff.1 hz.2)
    · obtain ⟨f1, f2⟩ := hf x hx
      have f1' : (x + 1).toNat ≤ h.at_.toNat := f1
      omega
theorem mayB_of {hs : List Hm} (hp : ∀ h ∈ hs, 0 ≤ h.at_) (hm : May (plains hs)) : mayB hs = true := may_of hs none hp hm (fun x hx => by cases hx)
theorem standB_of {la : List (List UInt8)} {hs : List Hm} (hp : ∀ h ∈ hs, 0 ≤ h.at_) (hs' : ∀ g ∈ plains hs, Stands la g) : standB la hs = true :=
  List.all_eq_true.2 fun h hh => (atB_stands (hp h hh)).2 (hs' _ (List.mem_map.2 ⟨h, hh, rfl⟩))
theorem stands_of {la : List (List UInt8)} {hs : List Hm} (hp : ∀ h ∈ hs, 0 ≤ h.at_) (h : standB la hs = true) : ∀ g ∈ plains hs, Stands la g := fun g hg => by
  obtain ⟨x, hx, rfl⟩ := List.mem_map.1 hg
  exact (atB_stands (hp x hx)).1 (List.all_eq_true.1 h x hx)
theorem keys_of : ∀ {hs ks : List Hm}, (∀ h ∈ hs, 0 ≤ h.at_) → (∀ h ∈ ks, 0 ≤ h.at_) → plains hs = plains ks → keys hs = keys ks
  | [], [], _, _, _ => rfl
  | [], k :: ks, _, _, h => by simp [plains] at h
  | h :: hs, [], _, _, e => by simp [plains] at e
  | h :: hs, k :: ks, h1, h2, e => by
    simp only [plains, List.map_cons, List.cons.injEq] at e
    have ih := keys_of (hs := hs) (ks := ks) (fun x hx => h1 x (List.mem_cons_of_mem _ hx)) (fun x hx => h2 x (List.mem_cons_of_mem _ hx)) e.2
    have a1 := h1 h (by simp)
    have a2 := h2 k (by simp)
    have e1 := e.1
    simp only [Hm.plain, Hk.mk.injEq] at e1
    have : h.key = k.key := by
      unfold Hm.key
      rw [e1.2.1, e1.2.2, show h.at_ = k.at_ by omega]
    simp only [keys, List.map_cons] at ih ⊢
    rw [this, ih]
end Go.Proofs.YtaepfahpbnpeiaaGreatDoor
namespace Go.Proofs.YtaepfahpbnpeiaaGreatDoor
open Go.RowKit
set_option linter.unusedVariables false

set_option maxHeartbeats 1000000 in
set_option maxRecDepth 100000 in
theorem check_any (A : Option Addr) (hs : List Hm) (cap : Nat) (w : World) (hk : Hks w w.heap.size A hs) (hn : hs.length ≤ 1000000) (hsm : Small hs) (er : Int) (her : er = if mayB hs then 0 else 6) :
    Calls Tryz.prog 79 #[.slice A hs.length cap] w fun e w' => e = .returned (.int .i64 er) ∧ Below w.heap.size w w' := by
  have HSM := Lib.hid hsm.2
  have HER := Lib.hid her
  clear hsm her
  have HK := Lib.hid hk
  clear hk
  go_enter Tryz.func79, Tryz.ntmps79
  go_wp2
  go_loopw [7] (fun i wr => ∃ k : Nat, k ≤ hs.length ∧ i = .int .i64 (k : Int) ∧ Hid (mayB hs = mayF (endOf hs k) (hs.drop k)) ∧ Hid (∀ j (hj : j < hs.length), j < k → 0 ≤ hs[j].at_) ∧ Below w.heap.size w wr) (fun i _ => hs.length - (intOf i).toNat)
  case atStart => exact ⟨0, Nat.zero_le _, rfl, by show _ = _; rw [endOf_zero]; rfl, fun j _ h => absurd h (by omega), Below.refl _ _⟩
  case round =>
    obtain ⟨k, hk, rfl, heq, hpos, hb⟩ := hrel
    by_cases hlt : k < hs.length
    · have hK := HK.out.on hb
      obtain ⟨b, off, rfl, hbl, h1, h2, h3⟩ := hK.get hlt
      have ok := hK.ok hs[k] (List.getElem_mem _)
      have sm1 := (HSM.out hs[k] (List.getElem_mem _)).1
      have sm2 := (HSM.out hs[k] (List.getElem_mem _)).2
      have l1 := ok.lo
      have l2 := ok.hi
      have l3 := ok.n1
      have l4 := ok.n2
      by_cases hneg : hs[k].at_ < 0
      · have hfin : Hid (mayB hs = false) := heq.out.trans (mayF_neg hlt hneg)
        clear heq hpos ok
        generalize hs[k].at_ = n at *
        go_wp2
        go_ret
        rw [HER.out, hfin.out]
        exact ⟨rfl, hb.alloc hb.size _⟩
      · by_cases h0 : hs[k].old.length = 0 ∧ hs[k].new.length = 0
        · have hfin : Hid (mayB hs = false) := heq.out.trans (mayF_none hlt h0.1 h0.2)
          obtain ⟨g1, g2⟩ := h0
          rw [g1] at h2
          rw [g2] at h3
          clear heq hpos ok g1 g2 l3 l4
          generalize hs[k].at_ = n at *
          go_wp2
          go_ret
          rw [HER.out, hfin.out]
          exact ⟨rfl, hb.alloc hb.size _⟩
        · by_cases hm1 : hs[k].old.length = 0
          · have q1 : ((hs[k].new.length : Int) == 0) = false := by
              rw [beq_eq_false_iff_ne]
              intro e
              exact h0 ⟨hm1, by omega⟩
            rw [hm1] at h2
            clear hm1
            cases k with
            | zero =>
              have hnew : Hid (mayB hs = mayF (endOf hs 1) (hs.drop 1)) := heq.out.trans (mayF_first hlt (by omega) h0)
              have hpos2 : Hid (∀ j (hj : j < hs.length), j < 1 → 0 ≤ hs[j].at_) := by
                intro j hj hj1
                obtain rfl : j = 0 := by omega
                omega
              clear heq hpos ok h0
              simp only [Nat.zero_mul, Nat.add_zero] at h1 h2 h3
              generalize hs[0].at_ = n at *
              generalize hs[0].old.length = m1 at *
              generalize hs[0].new.length = m2 at *
              go_wp2
              go_quiet (fail)
              go_wp2
              go_roundw
              case rel => exact ⟨1, by omega, by go_num, hnew, hpos2, below_drewN (hb.alloc hb.size _) _⟩
              case measure => simp [intOf]; omega
            | succ j =>
              obtain ⟨b2, off2, e2, _, p1, p2, p3⟩ := hK.get (j := j) (by omega)
              cases e2
              have ok2 := hK.ok hs[j] (List.getElem_mem _)
              have l5 := ok2.hi
              have l6 := ok2.n1
              have l7 := hpos.out j (by omega) (by omega)
              have hpos2 : Hid (∀ i (hi : i < hs.length), i < j + 2 → 0 ≤ hs[i].at_) := by
                intro i hi hij
                by_cases e : i = j + 1
                · subst e; omega
                · exact hpos.out i hi (by omega)
              have hA : Hid (hs[j + 1].at_ ≤ hs[j].at_ + hs[j].old.length → mayB hs = false) := fun hh => heq.out.trans (mayF_near hlt hh)
              have hB : Hid (hs[j].at_ + hs[j].old.length < hs[j + 1].at_ → mayB hs = mayF (endOf hs (j + 2)) (hs.drop (j + 2))) := fun hh => heq.out.trans (mayF_next hlt (by omega) h0 hh)
              have i1 : ((j + 1 : Nat) : Int) - 1 = (j : Int) := by omega
              have i2 : ((j + 1 : Nat) : Int) = (j : Int) + 1 := by omega
              clear heq hpos ok ok2 h0
              generalize hs[j + 1].at_ = n at *
              generalize hs[j + 1].old.length = m1 at *
              generalize hs[j + 1].new.length = m2 at *
              generalize hs[j].at_ = n0 at *
              generalize hs[j].old.length = m0 at *
              have HL : Hid (j + 1 < hs.length) := hlt
              by_cases hnear : n ≤ n0 + m0
              · have hfin := Lib.hid (hA.out hnear)
                have w1 : n - n0 ≤ (m0 : Int) := by omega
                clear hA hB
                go_wp2
                go_quiet (fail)
                go_wp2
                go_ret
                rw [HER.out, hfin.out]
                exact ⟨rfl, below_drewN (hb.alloc hb.size _) _⟩
              · have hnew := Lib.hid (hB.out (by omega))
                have w1 : ¬ (n - n0 ≤ (m0 : Int)) := by omega
                clear hA hB
                go_wp2
                go_quiet (fail)
                go_wp2
                go_roundw
                case rel => exact ⟨j + 2, by omega, by go_num, hnew, hpos2, below_drewN (hb.alloc hb.size _) _⟩
                case measure => simp [intOf]; omega
          · have q1 : ((hs[k].old.length : Int) == 0) = false := by
              rw [beq_eq_false_iff_ne]
              omega
            clear hm1
            cases k with
            | zero =>
              have hnew : Hid (mayB hs = mayF (endOf hs 1) (hs.drop 1)) := heq.out.trans (mayF_first hlt (by omega) h0)
              have hpos2 : Hid (∀ j (hj : j < hs.length), j < 1 → 0 ≤ hs[j].at_) := by
                intro j hj hj1
                obtain rfl : j = 0 := by omega
                omega
              clear heq hpos ok h0
              simp only [Nat.zero_mul, Nat.add_zero] at h1 h2 h3
              generalize hs[0].at_ = n at *
              generalize hs[0].old.length = m1 at *
              generalize hs[0].new.length = m2 at *
              go_wp2
              go_quiet (fail)
              go_wp2
              go_roundw
              case rel => exact ⟨1, by omega, by go_num, hnew, hpos2, below_drewN (hb.alloc hb.size _) _⟩
              case measure => simp [intOf]; omega
            | succ j =>
              obtain ⟨b2, off2, e2, _, p1, p2, p3⟩ := hK.get (j := j) (by omega)
              cases e2
              have ok2 := hK.ok hs[j] (List.getElem_mem _)
              have l5 := ok2.hi
              have l6 := ok2.n1
              have l7 := hpos.out j (by omega) (by omega)
              have hpos2 : Hid (∀ i (hi : i < hs.length), i < j + 2 → 0 ≤ hs[i].at_) := by
                intro i hi hij
                by_cases e : i = j + 1
                · subst e; omega
                · exact hpos.out i hi (by omega)
              have hA : Hid (hs[j + 1].at_ ≤ hs[j].at_ + hs[j].old.length → mayB hs = false) := fun hh => heq.out.trans (mayF_near hlt hh)
              have hB : Hid (hs[j].at_ + hs[j].old.length < hs[j + 1].at_ → mayB hs = mayF (endOf hs (j + 2)) (hs.drop (j + 2))) := fun hh => heq.out.trans (mayF_next hlt (by omega) h0 hh)
              have i1 : ((j + 1 : Nat) : Int) - 1 = (j : Int) := by omega
              have i2 : ((j + 1 : Nat) : Int) = (j : Int) + 1 := by omega
              clear heq hpos ok ok2 h0
              generalize hs[j + 1].at_ = n at *
              generalize hs[j + 1].old.length = m1 at *
              generalize hs[j + 1].new.length = m2 at *
              generalize hs[j].at_ = n0 at *
              generalize hs[j].old.length = m0 at *
              have HL : Hid (j + 1 < hs.length) := hlt
              by_cases hnear : n ≤ n0 + m0
              · have hfin := Lib.hid (hA.out hnear)
                have w1 : n - n0 ≤ (m0 : Int) := by omega
                clear hA hB
                go_wp2
                go_quiet (fail)
                go_wp2
                go_ret
                rw [HER.out, hfin.out]
                exact ⟨rfl, below_drewN (hb.alloc hb.size _) _⟩
              · have hnew := Lib.hid (hB.out (by omega))
                have w1 : ¬ (n - n0 ≤ (m0 : Int)) := by omega
                clear hA hB
                go_wp2
                go_quiet (fail)
                go_wp2
                go_roundw
                case rel => exact ⟨j + 2, by omega, by go_num, hnew, hpos2, below_drewN (hb.alloc hb.size _) _⟩
                case measure => simp [intOf]; omega
    · have hk2 : k = hs.length := by omega
      subst hk2
      have hfin : Hid (mayB hs = true) := by show _ = _; rw [heq.out, List.drop_length]; rfl
      clear heq hpos
      go_wp2
      go_ret
      rw [HER.out, hfin.out]
      exact ⟨rfl, hb⟩
end Go.Proofs.YtaepfahpbnpeiaaGreatDoor
namespace Go.Proofs.YtaepfahpbnpeiaaGreatDoor
open Go.RowKit
set_option linter.unusedVariables false

/-- A step's cells in block G, plainly. -/
structure PAt (w : World) (G : Nat) (kind : Int) (p q : ByteArray) (at_ : Int) (a1 : Option Addr) (n1 c1 : Nat) (a2 : Option Addr) (n2 c2 : Nat) : Prop where
  h : w.heap[G]? = some (.cells #[.int .i64 kind, .string p, .string q, .int .i64 at_, .slice a1 n1 c1, .slice a2 n2 c2] 38 (0, 0))
section
variable {w w' : World} {G : Nat} {kind : Int} {p q : ByteArray} {at_ : Int} {a1 : Option Addr} {n1 c1 : Nat} {a2 : Option Addr} {n2 c2 : Nat}
theorem PAt.k0 (k : PAt w G kind p q at_ a1 n1 c1 a2 n2 c2) : w.cell? ⟨G, 0, none⟩ = some (.int .i64 kind) := by simp [World.cell?, k.h]
theorem PAt.k1 (k : PAt w G kind p q at_ a1 n1 c1 a2 n2 c2) : w.cell? ⟨G, 1, none⟩ = some (.string p) := by simp [World.cell?, k.h]
theorem PAt.k2 (k : PAt w G kind p q at_ a1 n1 c1 a2 n2 c2) : w.cell? ⟨G, 2, none⟩ = some (.string q) := by simp [World.cell?, k.h]
theorem PAt.k3 (k : PAt w G kind p q at_ a1 n1 c1 a2 n2 c2) : w.cell? ⟨G, 3, none⟩ = some (.int .i64 at_) := by simp [World.cell?, k.h]
theorem PAt.k4 (k : PAt w G kind p q at_ a1 n1 c1 a2 n2 c2) : w.cell? ⟨G, 4, none⟩ = some (.slice a1 n1 c1) := by simp [World.cell?, k.h]
theorem PAt.k5 (k : PAt w G kind p q at_ a1 n1 c1 a2 n2 c2) : w.cell? ⟨G, 5, none⟩ = some (.slice a2 n2 c2) := by simp [World.cell?, k.h]
theorem PAt.lt (k : PAt w G kind p q at_ a1 n1 c1 a2 n2 c2) : G < w.heap.size := (Array.getElem?_eq_some_iff.1 k.h).1
theorem PAt.on (k : PAt w G kind p q at_ a1 n1 c1 a2 n2 c2) (hb : Below w.heap.size w w') : PAt w' G kind p q at_ a1 n1 c1 a2 n2 c2 := ⟨(hb.block G k.lt).trans k.h⟩
end
theorem PAt.new_ (w : World) (kind : Int) (p q : ByteArray) (at_ : Int) (a1 : Option Addr) (n1 c1 : Nat) (a2 : Option Addr) (n2 c2 : Nat) : PAt (w.alloc (.cells #[.int .i64 kind, .string p, .string q, .int .i64 at_, .slice a1 n1 c1, .slice a2 n2 c2] 38)) w.heap.size kind p q at_ a1 n1 c1 a2 n2 c2 := ⟨heap_alloc_new w _⟩
theorem q_empty {q : ByteArray} (h : q = ⟨#[]⟩) : (q.toList == []) = true := by rw [h, toList_eq]; rfl
end Go.Proofs.YtaepfahpbnpeiaaGreatDoor
namespace Go.Proofs.YtaepfahpbnpeiaaGreatDoor
open Go.RowKit
set_option linter.unusedVariables false

set_option maxHeartbeats 20000000 in
set_option maxRecDepth 100000 in
theorem bare_any (kind : Int) (p q : ByteArray) (at_ : Int) (a1 : Option Addr) (n1 c1 : Nat) (a2 : Option Addr) (n2 c2 : Nat) (w : World) (r : Bool) (hr : decide (at_ = 0 ∧ n1 = 0 ∧ n2 = 0) = r) :
    Calls Tryz.prog 78 #[.agg #[.int .i64 kind, .string p, .string q, .int .i64 at_, .slice a1 n1 c1, .slice a2 n2 c2]] w fun e w' => e = .returned (.bool r) ∧ Below w.heap.size w w' := by
  by_cases ha : at_ = 0
  · subst ha
    by_cases hn1 : n1 = 0
    · subst hn1
      by_cases hn2 : n2 = 0
      · subst hn2
        have hal : Below w.heap.size w (w.alloc (.cells #[.int .i64 kind, .string p, .string q, .int .i64 0, .slice a1 0 c1, .slice a2 0 c2] 38)) := (Below.refl _ _).alloc (Nat.le_refl _) _
        have HP : Hid (PAt (w.alloc (.cells #[.int .i64 kind, .string p, .string q, .int .i64 0, .slice a1 0 c1, .slice a2 0 c2] 38)) w.heap.size kind p q 0 a1 0 c1 a2 0 c2) := PAt.new_ w kind p q 0 a1 0 c1 a2 0 c2
        have HA := Lib.hid hal
        clear hal
        have b0 := HP.out.k0
        have b1 := HP.out.k1
        have b2 := HP.out.k2
        have b3 := HP.out.k3
        have b4 := HP.out.k4
        have b5 := HP.out.k5
        simp at hr
        subst hr
        go_enter Tryz.func78, Tryz.ntmps78
        go_wp2
        go_ret
        exact ⟨rfl, HA.out⟩
      · have hn22 : (((n2 : Nat) : Int) == 0) = false := by simpa using hn2
        have hal : Below w.heap.size w (w.alloc (.cells #[.int .i64 kind, .string p, .string q, .int .i64 0, .slice a1 0 c1, .slice a2 n2 c2] 38)) := (Below.refl _ _).alloc (Nat.le_refl _) _
        have HP : Hid (PAt (w.alloc (.cells #[.int .i64 kind, .string p, .string q, .int .i64 0, .slice a1 0 c1, .slice a2 n2 c2] 38)) w.heap.size kind p q 0 a1 0 c1 a2 n2 c2) := PAt.new_ w kind p q 0 a1 0 c1 a2 n2 c2
        have HA := Lib.hid hal
        clear hal
        have b0 := HP.out.k0
        have b1 := HP.out.k1
        have b2 := HP.out.k2
        have b3 := HP.out.k3
        have b4 := HP.out.k4
        have b5 := HP.out.k5
        simp [hn2] at hr
        subst hr
        go_enter Tryz.func78, Tryz.ntmps78
        go_wp2
        go_ret
        exact ⟨rfl, HA.out⟩
    · have hn12 : (((n1 : Nat) : Int) == 0) = false := by simpa using hn1
      have hal : Below w.heap.size w (w.alloc (.cells #[.int .i64 kind, .string p, .string q, .int .i64 0, .slice a1 n1 c1, .slice a2 n2 c2] 38)) := (Below.refl _ _).alloc (Nat.le_refl _) _
      have HP : Hid (PAt (w.alloc (.cells #[.int .i64 kind, .string p, .string q, .int .i64 0, .slice a1 n1 c1, .slice a2 n2 c2] 38)) w.heap.size kind p q 0 a1 n1 c1 a2 n2 c2) := PAt.new_ w kind p q 0 a1 n1 c1 a2 n2 c2
      have HA := Lib.hid hal
      clear hal
      have b0 := HP.out.k0
      have b1 := HP.out.k1
      have b2 := HP.out.k2
      have b3 := HP.out.k3
      have b4 := HP.out.k4
      have b5 := HP.out.k5
      simp [hn1] at hr
      subst hr
      go_enter Tryz.func78, Tryz.ntmps78
      go_wp2
      go_ret
      exact ⟨rfl, HA.out⟩
  · have ha2 : (at_ == 0) = false := by simpa using ha
    have hal : Below w.heap.size w (w.alloc (.cells #[.int .i64 kind, .string p, .string q, .int .i64 at_, .slice a1 n1 c1, .slice a2 n2 c2] 38)) := (Below.refl _ _).alloc (Nat.le_refl _) _
    have HP : Hid (PAt (w.alloc (.cells #[.int .i64 kind, .string p, .string q, .int .i64 at_, .slice a1 n1 c1, .slice a2 n2 c2] 38)) w.heap.size kind p q at_ a1 n1 c1 a2 n2 c2) := PAt.new_ w kind p q at_ a1 n1 c1 a2 n2 c2
    have HA := Lib.hid hal
    clear hal
    have b0 := HP.out.k0
    have b1 := HP.out.k1
    have b2 := HP.out.k2
    have b3 := HP.out.k3
    have b4 := HP.out.k4
    have b5 := HP.out.k5
    simp [ha] at hr
    subst hr
    go_enter Tryz.func78, Tryz.ntmps78
    go_wp2
    go_ret
    exact ⟨rfl, HA.out⟩
/-- Has a step a kind, and no part that this kind has not? -/
def formB (kind : Int) (q : ByteArray) (at_ : Int) (n1 n2 : Nat) : Bool := decide ((1 ≤ kind ∧ kind ≤ 6) ∧ (kind ≠ 5 → q = ⟨#[]⟩) ∧ (kind ≠ 6 → at_ = 0 ∧ n1 = 0 ∧ n2 = 0))
set_option maxHeartbeats 20000000 in
set_option maxRecDepth 100000 in
theorem formed_any (kind : Int) (p q : ByteArray) (at_ : Int) (a1 : Option Addr) (n1 c1 : Nat) (a2 : Option Addr) (n2 c2 : Nat) (w : World) (r : Bool) (hr : formB kind q at_ n1 n2 = r) :
    Calls Tryz.prog 51 #[.agg #[.int .i64 kind, .string p, .string q, .int .i64 at_, .slice a1 n1 c1, .slice a2 n2 c2]] w fun e w' => e = .returned (.bool r) ∧ Below w.heap.size w w' := by
  have CB := Lib.hid (fun (b : Bool) (hb : decide (at_ = 0 ∧ n1 = 0 ∧ n2 = 0) = b) W => bare_any kind p q at_ a1 n1 c1 a2 n2 c2 W b hb)
  have hal : Below w.heap.size w (w.alloc (.cells #[.int .i64 kind, .string p, .string q, .int .i64 at_, .slice a1 n1 c1, .slice a2 n2 c2] 38)) := (Below.refl _ _).alloc (Nat.le_refl _) _
  have HP : Hid (PAt (w.alloc (.cells #[.int .i64 kind, .string p, .string q, .int .i64 at_, .slice a1 n1 c1, .slice a2 n2 c2] 38)) w.heap.size kind p q at_ a1 n1 c1 a2 n2 c2) := PAt.new_ w kind p q at_ a1 n1 c1 a2 n2 c2
  have HA := Lib.hid hal
  clear hal
  have b0 := HP.out.k0
  have b1 := HP.out.k1
  have b2 := HP.out.k2
  have b3 := HP.out.k3
  have b4 := HP.out.k4
  have b5 := HP.out.k5
  unfold formB at hr
  by_cases hk1 : kind < 1
  · have e1 : ∀ j : Int, 1 ≤ j → (kind == j) = false := fun j hj => by simp; omega
    have e11 := e1 1 (by decide)
    have e12 := e1 2 (by decide)
    have e13 := e1 3 (by decide)
    have e14 := e1 4 (by decide)
    have e15 := e1 5 (by decide)
    have e16 := e1 6 (by decide)
    have hk2 : ¬ 1 ≤ kind := by omega
    clear CB e1
    simp [hk2] at hr
    subst hr
    go_enter Tryz.func51, Tryz.ntmps51
    go_wp2
    go_ret
    exact ⟨rfl, HA.out⟩
  · by_cases hk6 : 6 < kind
    · have e1 : ∀ j : Int, j ≤ 6 → (kind == j) = false := fun j hj => by simp; omega
      have e11 := e1 1 (by decide)
      have e12 := e1 2 (by decide)
      have e13 := e1 3 (by decide)
      have e14 := e1 4 (by decide)
      have e15 := e1 5 (by decide)
      have e16 := e1 6 (by decide)
      have hk2 : ¬ kind ≤ 6 := by omega
      clear CB e1
      simp [hk2] at hr
      subst hr
      go_enter Tryz.func51, Tryz.ntmps51
      go_wp2
      go_ret
      exact ⟨rfl, HA.out⟩
    · have hk : (kind = 1 ∨ kind = 2 ∨ kind = 3 ∨ kind = 4) ∨ kind = 5 ∨ kind = 6 := by omega
      clear hk1 hk6
      rcases hk with hk | rfl | rfl
      · by_cases hq : q = ⟨#[]⟩
        · have hq2 := q_empty hq
          rcases hk with rfl | rfl | rfl | rfl
          all_goals
            obtain ⟨b, hb⟩ : ∃ b, decide (at_ = 0 ∧ n1 = 0 ∧ n2 = 0) = b := ⟨_, rfl⟩
            have CB1 := Lib.hid (CB.out b hb)
            have hrb : r = b := by rw [← hr, ← hb]; simp [hq]
            subst hrb
            clear hr hb CB hq
            go_enter Tryz.func51, Tryz.ntmps51
            go_wp2_with fail
            refine (CB1.out _).mono ?_
            rintro e w1 ⟨rfl, hb⟩
            have HB1 := Lib.hid hb
            clear hb b0 b1 b2 b3 b4 b5
            have b0 := (HP.out.on HB1.out).k0
            have b1 := (HP.out.on HB1.out).k1
            have b2 := (HP.out.on HB1.out).k2
            have b3 := (HP.out.on HB1.out).k3
            have b4 := (HP.out.on HB1.out).k4
            have b5 := (HP.out.on HB1.out).k5
            go_wp2
            go_ret
            exact ⟨rfl, HA.out.trans (HB1.out.mono HA.out.size)⟩
        · have hq2 : (q.toList == []) = false := str_ne_empty hq
          clear CB
          rcases hk with rfl | rfl | rfl | rfl
          all_goals
            simp [hq] at hr
            subst hr
            clear hq
            go_enter Tryz.func51, Tryz.ntmps51
            go_wp2
            go_ret
            exact ⟨rfl, HA.out⟩
      · obtain ⟨b, hb⟩ : ∃ b, decide (at_ = 0 ∧ n1 = 0 ∧ n2 = 0) = b := ⟨_, rfl⟩
        have CB1 := Lib.hid (CB.out b hb)
        have hrb : r = b := by rw [← hr, ← hb]; simp 
        subst hrb
        clear hr hb CB
        go_enter Tryz.func51, Tryz.ntmps51
        go_wp2_with fail
        refine (CB1.out _).mono ?_
        rintro e w1 ⟨rfl, hb⟩
        have HB1 := Lib.hid hb
        clear hb b0 b1 b2 b3 b4 b5
        have b0 := (HP.out.on HB1.out).k0
        have b1 := (HP.out.on HB1.out).k1
        have b2 := (HP.out.on HB1.out).k2
        have b3 := (HP.out.on HB1.out).k3
        have b4 := (HP.out.on HB1.out).k4
        have b5 := (HP.out.on HB1.out).k5
        go_wp2
        go_ret
        exact ⟨rfl, HA.out.trans (HB1.out.mono HA.out.size)⟩
      · clear CB
        by_cases hq : q = ⟨#[]⟩
        · have hq2 := q_empty hq
          simp [hq] at hr
          subst hr
          clear hq
          go_enter Tryz.func51, Tryz.ntmps51
          go_wp2
          go_ret
          exact ⟨rfl, HA.out⟩
        · have hq2 : (q.toList == []) = false := str_ne_empty hq
          simp [hq] at hr
          subst hr
          clear hq
          go_enter Tryz.func51, Tryz.ntmps51
          go_wp2
          go_ret
          exact ⟨rfl, HA.out⟩
end Go.Proofs.YtaepfahpbnpeiaaGreatDoor
