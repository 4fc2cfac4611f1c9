/- The reference's Hunks of layer 4: the walk through both lists. The statements' Light of hunks (layer 4). What package diff's calls are to do, as words: each is proved of the landed code. Package diff's Check. The reference's Right, Check, Text, Split, At of layer 3. -/
import Derived.Test.YtknommnlkdlkdaaGreatDoorCk10
import Derived.Test.YtknommnlkdlkdaaGreatDoorCk09
import Derived.Test.YtknommnlkdlkdaaGreatDoorCk08
import Derived.Test.YtknommnlkdlkdaaGreatDoorCk03
import Derived.Test.YtknommnlkdlkdaaGreatDoorCk02
import Derived.Test.YtknommnlkdlkdaaGreatDoorShelf
import Derived.Lib.LaidU8
import Derived.BigQuiet
import Derived.BigRegion
import Derived.Deep.QuietTactic
import Derived.Handy
namespace Go.Proofs.YtknommnlkdlkdaaGreatDoor
open Go.RowKit
set_option linter.unusedVariables false

section
variable {la lc : List (List UInt8)} {f i k : Nat} {h : Hk (List UInt8)}
theorem walk_same (hi : i < la.length) (hk : k < lc.length) (he : la[i] = lc[k]) (hf : la.length - i + (lc.length - k) ≤ f) : walk f i (la.drop i) (lc.drop k) h = flush h (walk (f - 1) (i + 1) (la.drop (i + 1)) (lc.drop (k + 1)) ⟨i + 1, [], []⟩) := by
  obtain ⟨f', rfl⟩ : ∃ f', f = f' + 1 := ⟨f - 1, by omega⟩
  rw [List.drop_eq_getElem_cons hi, List.drop_eq_getElem_cons hk, walk, if_pos he]
  rfl
theorem walk_goes (hi : i < la.length) (hk : k < lc.length) (he : la[i] ≠ lc[k]) (hl : lcs (la.drop i) (lc.drop (k + 1)) ≤ lcs (la.drop (i + 1)) (lc.drop k)) (hf : la.length - i + (lc.length - k) ≤ f) :
    walk f i (la.drop i) (lc.drop k) h = walk (f - 1) (i + 1) (la.drop (i + 1)) (lc.drop k) ⟨h.at_, h.old ++ [la[i]], h.new⟩ := by
  obtain ⟨f', rfl⟩ : ∃ f', f = f' + 1 := ⟨f - 1, by omega⟩
  rw [List.drop_eq_getElem_cons hi, List.drop_eq_getElem_cons hk] at hl ⊢
  rw [walk, if_neg he, if_pos hl]
  rfl
theorem walk_comes (hi : i < la.length) (hk : k < lc.length) (he : la[i] ≠ lc[k]) (hl : ¬ lcs (la.drop i) (lc.drop (k + 1)) ≤ lcs (la.drop (i + 1)) (lc.drop k)) (hf : la.length - i + (lc.length - k) ≤ f) :
    walk f i (la.drop i) (lc.drop k) h = walk (f - 1) i (la.drop i) (lc.drop (k + 1)) ⟨h.at_, h.old, h.new ++ [lc[k]]⟩ := by
  obtain ⟨f', rfl⟩ : ∃ f', f = f' + 1 := ⟨f - 1, by omega⟩
  rw [List.drop_eq_getElem_cons hi, List.drop_eq_getElem_cons hk] at hl ⊢
  rw [walk, if_neg he, if_neg hl]
  rfl
theorem walk_goes' (hi : i < la.length) (hk : ¬ k < lc.length) (hf : la.length - i + (lc.length - k) ≤ f) :
    walk f i (la.drop i) (lc.drop k) h = walk (f - 1) (i + 1) (la.drop (i + 1)) (lc.drop k) ⟨h.at_, h.old ++ [la[i]], h.new⟩ := by
  obtain ⟨f', rfl⟩ : ∃ f', f = f' + 1 := ⟨f - 1, by omega⟩
  rw [List.drop_eq_getElem_cons hi, List.drop_of_length_le (Nat.le_of_not_lt hk), walk]
  rfl
theorem walk_comes' (hi : ¬ i < la.length) (hk : k < lc.length) (hf : la.length - i + (lc.length - k) ≤ f) :
    walk f i (la.drop i) (lc.drop k) h = walk (f - 1) i (la.drop i) (lc.drop (k + 1)) ⟨h.at_, h.old, h.new ++ [lc[k]]⟩ := by
  obtain ⟨f', rfl⟩ : ∃ f', f = f' + 1 := ⟨f - 1, by omega⟩
  rw [List.drop_eq_getElem_cons hk, List.drop_of_length_le (Nat.le_of_not_lt hi), walk]
  rfl
theorem walk_end (hi : ¬ i < la.length) (hk : ¬ k < lc.length) : walk f i (la.drop i) (lc.drop k) h = flush h [] := by
  rw [List.drop_of_length_le (Nat.le_of_not_lt hi), List.drop_of_length_le (Nat.le_of_not_lt hk)]
  cases f <;> rfl
end
theorem flush_empty {h : Hm} {l : List (Hk (List UInt8))} (h1 : h.old.length = 0) (h2 : h.new.length = 0) : flush h.plain l = l := by
  unfold flush
  rw [if_pos ⟨List.length_eq_zero_iff.1 h1, List.length_eq_zero_iff.1 h2⟩]
theorem flush_some {h : Hm} {l : List (Hk (List UInt8))} (h1 : h.old.length + h.new.length ≠ 0) : flush h.plain l = h.plain :: l := by
  unfold flush
  rw [if_neg]
  rintro ⟨e1, e2⟩
  exact h1 (by rw [show h.old = [] from e1, show h.new = [] from e2]; rfl)
theorem plains_snoc (hs : List Hm) (h : Hm) : plains (hs ++ [h]) = plains hs ++ [h.plain] := by simp [plains]

end Go.Proofs.YtknommnlkdlkdaaGreatDoor
namespace Go.Proofs.YtknommnlkdlkdaaGreatDoor
open Go.RowKit
set_option linter.unusedVariables false

def lightOne (h : Hm) : Bool := light3B (toBs h.old) && light3B (toBs h.new)
def light4B (hs : List Hm) : Bool := hs.all lightOne && decide (hs.length ≤ 30)
theorem light4_no {hs : List Hm} {k : Nat} (hk : k < hs.length) (h : lightOne hs[k] = false) : light4B hs = false := by
  have : hs.all lightOne = false := by
    rw [List.all_eq_false]
    exact ⟨hs[k], List.getElem_mem _, by rw [h]; simp⟩
  simp [light4B, this]
theorem light4_yes {hs : List Hm} (h : ∀ j (hj : j < hs.length), lightOne hs[j] = true) : light4B hs = decide (hs.length ≤ 30) := by
  have : hs.all lightOne = true := by
    rw [List.all_eq_true]
    intro s hs
    obtain ⟨j, hj, rfl⟩ := List.getElem_of_mem hs
    exact h j hj
  simp [light4B, this]
theorem light4_facts {hs : List Hm} (h : light4B hs = true) : hs.length ≤ 30 ∧ ∀ h ∈ hs, light3B (toBs h.old) = true ∧ light3B (toBs h.new) = true := by
  unfold light4B at h
  rw [Bool.and_eq_true, List.all_eq_true] at h
  refine ⟨by simpa using h.2, fun x hx => ?_⟩
  have := h.1 x hx
  unfold lightOne at this
  rwa [Bool.and_eq_true] at this

end Go.Proofs.YtknommnlkdlkdaaGreatDoor
namespace Go.Proofs.YtknommnlkdlkdaaGreatDoor
open Go.RowKit
set_option linter.unusedVariables false

/-- The error of hunks done. -/
def applE (la : List (List UInt8)) (hs : List Hm) : Int := if mayB hs then (if standB la hs then 0 else 13) else 6
/-- What Invert leaves. -/
def InvTold (w : World) (hs : List Hm) (e : Ending) (w' : World) : Prop :=
  ∃ A cap ks, e = .returned (.slice A (List.length (α := Hm) ks) cap) ∧ ((mayB hs = true → plains ks = inv 0 0 (plains hs) ∧ ∀ h ∈ ks, 0 ≤ h.at_) ∧ (mayB hs = false → ks = [])) ∧ Room A ks.length cap ∧ Hks w' w'.heap.size A ks ∧ Below w.heap.size w w'
def ApplyC : Prop := ∀ (A A2 : Option Addr) (la : List (List UInt8)) (hs : List Hm) (cap cap2 : Nat) (w : World), Strs w w.heap.size A (toBs la) → Room A la.length cap → Hks w w.heap.size A2 hs → Room A2 hs.length cap2 → Small hs → hs.length ≤ 1000 → la.length + sumNew (plains hs) ≤ 300000 →
  Calls Tryz.prog 103 #[.slice A la.length cap, .slice A2 hs.length cap2] w (Told w (refApp la (plains hs)) (applE la hs))
def CheckC : Prop := ∀ (A : Option Addr) (hs : List Hm) (cap : Nat) (w : World), Hks w w.heap.size A hs → Room A hs.length cap → Small hs → hs.length ≤ 1000 →
  Calls Tryz.prog 83 #[.slice A hs.length cap] w fun e w' => e = .returned (.int .i64 (if mayB hs then 0 else 6)) ∧ Below w.heap.size w w'
theorem may_of : ∀ (hs : List Hm) (e : Option Int), (∀ h ∈ hs, 0 ≤ h.at_) → May (plains hs) → (∀ x ∈ e, From (x + 1).toNat (plains hs) ∧ -1 ≤ x) → mayF e hs = true
  | [], _, _, _, _ => rfl
  | h :: l, e, hp, hm, hf => by
    have h0 := hp h (by simp)
    obtain ⟨m1, m2, m3⟩ := hm
    have ih := may_of l (some (h.at_ + h.old.length)) (fun x hx => hp x (List.mem_cons_of_mem _ hx)) m3 (fun x hx => by
      cases hx
      refine ⟨?_, by omega⟩
      have e2 : (h.at_ + (h.old.length : Int) + 1).toNat = h.plain.at_ + h.plain.old.length + 1 := by simp only [Hm.plain]; omega
      rw [e2]
      exact m2)
    rw [mayF, ih, Bool.and_true]
    unfold okAt
    rw [decide_eq_true_eq]
    refine ⟨h0, fun hz => ?_, fun x hx => ?_⟩
    · rcases m1 with m1 | m1
      · exact m1 (List.length_eq_zero_iff.1 hz.1)
      · exact m1 (List.length_eq_zero_iff.1 hz.2)
    · obtain ⟨f1, f2⟩ := hf x hx
      have f1' : (x + 1).toNat ≤ h.at_.toNat := f1
      omega
theorem mayB_of {hs : List Hm} (hp : ∀ h ∈ hs, 0 ≤ h.at_) (hm : May (plains hs)) : mayB hs = true := may_of hs none hp hm (fun x hx => by cases hx)
theorem standB_of {la : List (List UInt8)} {hs : List Hm} (hp : ∀ h ∈ hs, 0 ≤ h.at_) (hs' : ∀ g ∈ plains hs, Stands la g) : standB la hs = true :=
  List.all_eq_true.2 fun h hh => (atB_stands (hp h hh)).2 (hs' _ (List.mem_map.2 ⟨h, hh, rfl⟩))
theorem stands_of {la : List (List UInt8)} {hs : List Hm} (hp : ∀ h ∈ hs, 0 ≤ h.at_) (h : standB la hs = true) : ∀ g ∈ plains hs, Stands la g := fun g hg => by
  obtain ⟨x, hx, rfl⟩ := List.mem_map.1 hg
  exact (atB_stands (hp x hx)).1 (List.all_eq_true.1 h x hx)
theorem keys_of : ∀ {hs ks : List Hm}, (∀ h ∈ hs, 0 ≤ h.at_) → (∀ h ∈ ks, 0 ≤ h.at_) → plains hs = plains ks → keys hs = keys ks
  | [], [], _, _, _ => rfl
  | [], k :: ks, _, _, h => by simp [plains] at h
  | h :: hs, [], _, _, e => by simp [plains] at e
  | h :: hs, k :: ks, h1, h2, e => by
    simp only [plains, List.map_cons, List.cons.injEq] at e
    have ih := keys_of (hs := hs) (ks := ks) (fun x hx => h1 x (List.mem_cons_of_mem _ hx)) (fun x hx => h2 x (List.mem_cons_of_mem _ hx)) e.2
    have a1 := h1 h (by simp)
    have a2 := h2 k (by simp)
    have e1 := e.1
    simp only [Hm.plain, Hk.mk.injEq] at e1
    have : h.key = k.key := by
      unfold Hm.key
      rw [e1.2.1, e1.2.2, show h.at_ = k.at_ by omega]
    simp only [keys, List.map_cons] at ih ⊢
    rw [this, ih]
end Go.Proofs.YtknommnlkdlkdaaGreatDoor
namespace Go.Proofs.YtknommnlkdlkdaaGreatDoor
open Go.RowKit
set_option linter.unusedVariables false

set_option maxHeartbeats 1000000 in
set_option maxRecDepth 100000 in
theorem check_any (A : Option Addr) (hs : List Hm) (cap : Nat) (w : World) (hk : Hks w w.heap.size A hs) (hn : hs.length ≤ 1000000) (hsm : Small hs) (er : Int) (her : er = if mayB hs then 0 else 6) :
    Calls Tryz.prog 83 #[.slice A hs.length cap] w fun e w' => e = .returned (.int .i64 er) ∧ Below w.heap.size w w' := by
  have HSM := Lib.hid hsm.2
  have HER := Lib.hid her
  clear hsm her
  have HK := Lib.hid hk
  clear hk
  go_enter Tryz.func83, Tryz.ntmps83
  go_wp2
  go_loopw [7] (fun i wr => ∃ k : Nat, k ≤ hs.length ∧ i = .int .i64 (k : Int) ∧ Hid (mayB hs = mayF (endOf hs k) (hs.drop k)) ∧ Hid (∀ j (hj : j < hs.length), j < k → 0 ≤ hs[j].at_) ∧ Below w.heap.size w wr) (fun i _ => hs.length - (intOf i).toNat)
  case atStart => exact ⟨0, Nat.zero_le _, rfl, by show _ = _; rw [endOf_zero]; rfl, fun j _ h => absurd h (by omega), Below.refl _ _⟩
  case round =>
    obtain ⟨k, hk, rfl, heq, hpos, hb⟩ := hrel
    by_cases hlt : k < hs.length
    · have hK := HK.out.on hb
      obtain ⟨b, off, rfl, hbl, h1, h2, h3⟩ := hK.get hlt
      have ok := hK.ok hs[k] (List.getElem_mem _)
      have sm1 := (HSM.out hs[k] (List.getElem_mem _)).1
      have sm2 := (HSM.out hs[k] (List.getElem_mem _)).2
      have l1 := ok.lo
      have l2 := ok.hi
      have l3 := ok.n1
      have l4 := ok.n2
      by_cases hneg : hs[k].at_ < 0
      · have hfin : Hid (mayB hs = false) := heq.out.trans (mayF_neg hlt hneg)
        clear heq hpos ok
        generalize hs[k].at_ = n at *
        go_wp2
        go_ret
        rw [HER.out, hfin.out]
        exact ⟨rfl, hb.alloc hb.size _⟩
      · by_cases h0 : hs[k].old.length = 0 ∧ hs[k].new.length = 0
        · have hfin : Hid (mayB hs = false) := heq.out.trans (mayF_none hlt h0.1 h0.2)
          obtain ⟨g1, g2⟩ := h0
          rw [g1] at h2
          rw [g2] at h3
          clear heq hpos ok g1 g2 l3 l4
          generalize hs[k].at_ = n at *
          go_wp2
          go_ret
          rw [HER.out, hfin.out]
          exact ⟨rfl, hb.alloc hb.size _⟩
        · by_cases hm1 : hs[k].old.length = 0
          · have q1 : ((hs[k].new.length : Int) == 0) = false := by
              rw [beq_eq_false_iff_ne]
              intro e
              exact h0 ⟨hm1, by omega⟩
            rw [hm1] at h2
            clear hm1
            cases k with
            | zero =>
              have hnew : Hid (mayB hs = mayF (endOf hs 1) (hs.drop 1)) := heq.out.trans (mayF_first hlt (by omega) h0)
              have hpos2 : Hid (∀ j (hj : j < hs.length), j < 1 → 0 ≤ hs[j].at_) := by
                intro j hj hj1
                obtain rfl : j = 0 := by omega
                omega
              clear heq hpos ok h0
              simp only [Nat.zero_mul, Nat.add_zero] at h1 h2 h3
              generalize hs[0].at_ = n at *
              generalize hs[0].old.length = m1 at *
              generalize hs[0].new.length = m2 at *
              go_wp2
              go_quiet (fail)
              go_wp2
              go_roundw
              case rel => exact ⟨1, by omega, by go_num, hnew, hpos2, below_drewN (hb.alloc hb.size _) _⟩
              case measure => simp [intOf]; omega
            | succ j =>
              obtain ⟨b2, off2, e2, _, p1, p2, p3⟩ := hK.get (j := j) (by omega)
              cases e2
              have ok2 := hK.ok hs[j] (List.getElem_mem _)
              have l5 := ok2.hi
              have l6 := ok2.n1
              have l7 := hpos.out j (by omega) (by omega)
              have hpos2 : Hid (∀ i (hi : i < hs.length), i < j + 2 → 0 ≤ hs[i].at_) := by
                intro i hi hij
                by_cases e : i = j + 1
                · subst e; omega
                · exact hpos.out i hi (by omega)
              have hA : Hid (hs[j + 1].at_ ≤ hs[j].at_ + hs[j].old.length → mayB hs = false) := fun hh => heq.out.trans (mayF_near hlt hh)
              have hB : Hid (hs[j].at_ + hs[j].old.length < hs[j + 1].at_ → mayB hs = mayF (endOf hs (j + 2)) (hs.drop (j + 2))) := fun hh => heq.out.trans (mayF_next hlt (by omega) h0 hh)
              have i1 : ((j + 1 : Nat) : Int) - 1 = (j : Int) := by omega
              have i2 : ((j + 1 : Nat) : Int) = (j : Int) + 1 := by omega
              clear heq hpos ok ok2 h0
              generalize hs[j + 1].at_ = n at *
              generalize hs[j + 1].old.length = m1 at *
              generalize hs[j + 1].new.length = m2 at *
              generalize hs[j].at_ = n0 at *
              generalize hs[j].old.length = m0 at *
              have HL : Hid (j + 1 < hs.length) := hlt
              by_cases hnear : n ≤ n0 + m0
              · have hfin := Lib.hid (hA.out hnear)
                have w1 : n - n0 ≤ (m0 : Int) := by omega
                clear hA hB
                go_wp2
                go_quiet (fail)
                go_wp2
                go_ret
                rw [HER.out, hfin.out]
                exact ⟨rfl, below_drewN (hb.alloc hb.size _) _⟩
              · have hnew := Lib.hid (hB.out (by omega))
                have w1 : ¬ (n - n0 ≤ (m0 : Int)) := by omega
                clear hA hB
                go_wp2
                go_quiet (fail)
                go_wp2
                go_roundw
                case rel => exact ⟨j + 2, by omega, by go_num, hnew, hpos2, below_drewN (hb.alloc hb.size _) _⟩
                case measure => simp [intOf]; omega
          · have q1 : ((hs[k].old.length : Int) == 0) = false := by
              rw [beq_eq_false_iff_ne]
              omega
            clear hm1
            cases k with
            | zero =>
              have hnew : Hid (mayB hs = mayF (endOf hs 1) (hs.drop 1)) := heq.out.trans (mayF_first hlt (by omega) h0)
              have hpos2 : Hid (∀ j (hj : j < hs.length), j < 1 → 0 ≤ hs[j].at_) := by
                intro j hj hj1
                obtain rfl : j = 0 := by omega
                omega
              clear heq hpos ok h0
              simp only [Nat.zero_mul, Nat.add_zero] at h1 h2 h3
              generalize hs[0].at_ = n at *
              generalize hs[0].old.length = m1 at *
              generalize hs[0].new.length = m2 at *
              go_wp2
              go_quiet (fail)
              go_wp2
              go_roundw
              case rel => exact ⟨1, by omega, by go_num, hnew, hpos2, below_drewN (hb.alloc hb.size _) _⟩
              case measure => simp [intOf]; omega
            | succ j =>
              obtain ⟨b2, off2, e2, _, p1, p2, p3⟩ := hK.get (j := j) (by omega)
              cases e2
              have ok2 := hK.ok hs[j] (List.getElem_mem _)
              have l5 := ok2.hi
              have l6 := ok2.n1
              have l7 := hpos.out j (by omega) (by omega)
              have hpos2 : Hid (∀ i (hi : i < hs.length), i < j + 2 → 0 ≤ hs[i].at_) := by
                intro i hi hij
                by_cases e : i = j + 1
                · subst e; omega
                · exact hpos.out i hi (by omega)
              have hA : Hid (hs[j + 1].at_ ≤ hs[j].at_ + hs[j].old.length → mayB hs = false) := fun hh => heq.out.trans (mayF_near hlt hh)
              have hB : Hid (hs[j].at_ + hs[j].old.length < hs[j + 1].at_ → mayB hs = mayF (endOf hs (j + 2)) (hs.drop (j + 2))) := fun hh => heq.out.trans (mayF_next hlt (by omega) h0 hh)
              have i1 : ((j + 1 : Nat) : Int) - 1 = (j : Int) := by omega
              have i2 : ((j + 1 : Nat) : Int) = (j : Int) + 1 := by omega
              clear heq hpos ok ok2 h0
              generalize hs[j + 1].at_ = n at *
              generalize hs[j + 1].old.length = m1 at *
              generalize hs[j + 1].new.length = m2 at *
              generalize hs[j].at_ = n0 at *
              generalize hs[j].old.length = m0 at *
              have HL : Hid (j + 1 < hs.length) := hlt
              by_cases hnear : n ≤ n0 + m0
              · have hfin := Lib.hid (hA.out hnear)
                have w1 : n - n0 ≤ (m0 : Int) := by omega
                clear hA hB
                go_wp2
                go_quiet (fail)
                go_wp2
                go_ret
                rw [HER.out, hfin.out]
                exact ⟨rfl, below_drewN (hb.alloc hb.size _) _⟩
              · have hnew := Lib.hid (hB.out (by omega))
                have w1 : ¬ (n - n0 ≤ (m0 : Int)) := by omega
                clear hA hB
                go_wp2
                go_quiet (fail)
                go_wp2
                go_roundw
                case rel => exact ⟨j + 2, by omega, by go_num, hnew, hpos2, below_drewN (hb.alloc hb.size _) _⟩
                case measure => simp [intOf]; omega
    · have hk2 : k = hs.length := by omega
      subst hk2
      have hfin : Hid (mayB hs = true) := by show _ = _; rw [heq.out, List.drop_length]; rfl
      clear heq hpos
      go_wp2
      go_ret
      rw [HER.out, hfin.out]
      exact ⟨rfl, hb⟩
end Go.Proofs.YtknommnlkdlkdaaGreatDoor
namespace Go.Proofs.YtknommnlkdlkdaaGreatDoor
open Go.RowKit
set_option linter.unusedVariables false

/-- unicode/utf8's two tables lie in their variables. -/
def Tabs (w : World) : Prop := Lib.Utf8Tabs 1 2 w
theorem cell_lt {w : World} {b o : Nat} {v : Value} (h : w.cell? ⟨b, o, none⟩ = some v) : b < w.heap.size := by
  unfold World.cell? at h
  rcases Nat.lt_or_ge b w.heap.size with h1 | h1
  · exact h1
  · rw [Array.getElem?_eq_none h1] at h
    simp at h
theorem Tabs.on {w w' : World} (h : Tabs w) (hb : Below w.heap.size w w') : Tabs w' :=
  ⟨fun c hc => (hb.cell (p := ⟨_, c, none⟩) (cell_lt (h.1 c hc))).trans (h.1 c hc),
   fun i hi => ⟨(hb.cell (p := ⟨_, 2 * i, none⟩) (cell_lt (h.2 i hi).1)).trans (h.2 i hi).1, (hb.cell (p := ⟨_, 2 * i + 1, none⟩) (cell_lt (h.2 i hi).2)).trans (h.2 i hi).2⟩⟩

theorem decode_tail (s : ByteArray) (i : Nat) (h : i < s.size) (w : World) (hT : Tabs w) :
    Calls Tryz.prog 131 #[.string (s.extract i s.size)] w fun e w' => e = .returned (.tuple #[.int .i32 (Utf8.decode s i).1, .int .i64 (Utf8.decode s i).2]) ∧ Below w.heap.size w w' := by
  have h1 := Tryz.utf8_DecodeRuneInString (s.extract i s.size) w hT
  rw [decodeGo_tail s i h] at h1
  exact h1

theorem text_app (l : List UInt8) (s : ByteArray) : (toB l ++ s ++ ⟨#[10]⟩ : ByteArray) = toB (l ++ s.data.toList ++ [10]) := by
  apply ByteArray.ext
  simp [toB]
theorem textL_le (ls : List (List UInt8)) (k : Nat) : (textL (ls.take k)).length ≤ (textL ls).length := by
  have h : textL ls = textL (ls.take k) ++ textL (ls.drop k) := by
    simp only [textL, ← List.flatten_append, ← List.map_append, List.take_append_drop]
  rw [h]; simp
theorem lists_take1 (ss : List ByteArray) (k : Nat) (h : k < ss.length) : lists (ss.take (k + 1)) = lists (ss.take k) ++ [ss[k].data.toList] := by
  rw [List.take_succ_eq_append_getElem h, lists, List.map_append]; rfl
theorem lists_take0 (ss : List ByteArray) (k : Nat) : lists (ss.take k) = (lists ss).take k := by simp [lists, List.map_take]
theorem toB_sizeL (l : List UInt8) : (toB l).size = l.length := by simp [toB, ByteArray.size]

/-- A part of a text. -/
theorem extract_toB (s : ByteArray) (i j : Nat) : s.extract i j = toB ((s.data.toList.drop i).take (j - i)) := by
  apply ByteArray.ext
  rw [ByteArray.data_extract]
  apply Array.ext'
  simp [toB, Array.toList_extract, List.extract_eq_take_drop]
theorem drop_cons (s : ByteArray) (k : Nat) (h : k < s.size) : s.data.toList.drop k = s[k] :: s.data.toList.drop (k + 1) := by
  rw [List.drop_eq_getElem_cons (by simpa using h)]
  rfl
theorem cur_snoc (s : ByteArray) (a k : Nat) (hak : a ≤ k) (h : k < s.size) : (s.data.toList.drop a).take (k + 1 - a) = (s.data.toList.drop a).take (k - a) ++ [s[k]] := by
  rw [show k + 1 - a = (k - a) + 1 by omega, List.take_succ_eq_append_getElem (by simp; omega)]
  congr 2
  simp [show a + (k - a) = k by omega]
  rfl

end Go.Proofs.YtknommnlkdlkdaaGreatDoor
