/- Package prim's Check. Rows of steps, plainly: all done, all taken back; hunks done one by one, the last one first. Package diff's stands: are a hunk's old lines where it says? Package diff's Size, sameHunk and Same. -/
import Derived.Test.YtaepfahpbnpeiaaGreatDoorCk25
import Derived.Test.YtaepfahpbnpeiaaGreatDoorCk26
import Derived.Test.YtaepfahpbnpeiaaGreatDoorCk18
import Derived.Test.YtaepfahpbnpeiaaGreatDoorCk19
import Derived.Test.YtaepfahpbnpeiaaGreatDoorCk22
import Derived.Test.YtaepfahpbnpeiaaGreatDoorCk05
namespace Go.Proofs.YtaepfahpbnpeiaaGreatDoor
open Go.RowKit
set_option linter.unusedVariables false

theorem ckP_by (x : Pm) : ckP x.key = if formB x.kind x.dst x.at_ x.old.length x.new.length = false then 2 else if placeB x.kind x.p x.dst = false then 8 else if x.kind = 6 ∧ linedB x.at_ x.old x.new = false then 6 else 0 := by
  have hd : x.dst.data.toList = [] ↔ x.dst = ⟨#[]⟩ := ⟨fun e => by rw [← toB_of x.dst, e]; rfl, fun e => by rw [e]⟩
  have hpq : x.p.data.toList = x.dst.data.toList ↔ x.p = x.dst := ⟨bytes_inj, fun e => by rw [e]⟩
  have f1 : (x.kind < 1 ∨ 6 < x.kind ∨ (x.kind ≠ 5 ∧ x.dst.data.toList ≠ []) ∨ (x.kind ≠ 6 ∧ (x.at_ ≠ 0 ∨ 0 < x.old.length + x.new.length))) ↔ formB x.kind x.dst x.at_ x.old.length x.new.length = false := by
    unfold formB
    rw [decide_eq_false_iff_not]
    constructor
    · rintro (h | h | ⟨h, h'⟩ | ⟨h, h'⟩) ⟨⟨k1, k6⟩, h5, h6⟩
      · omega
      · omega
      · exact h' (hd.2 (h5 h))
      · have := h6 h; omega
    · intro h
      by_cases c1 : x.kind < 1
      · exact .inl c1
      by_cases c2 : 6 < x.kind
      · exact .inr (.inl c2)
      by_cases c3 : x.kind ≠ 5 ∧ x.dst.data.toList ≠ []
      · exact .inr (.inr (.inl c3))
      refine .inr (.inr (.inr ?_))
      refine Classical.byContradiction fun c4 => h ⟨⟨by omega, by omega⟩, fun e => hd.1 (Classical.byContradiction fun g => c3 ⟨e, g⟩), fun e => ?_⟩
      have : ¬ (x.at_ ≠ 0 ∨ 0 < x.old.length + x.new.length) := fun g => c4 ⟨e, g⟩
      omega
  have f2 : (names nameP x.p.data.toList = [] ∨ (x.kind = 5 ∧ (names nameP x.dst.data.toList = [] ∨ x.p.data.toList = x.dst.data.toList))) ↔ placeB x.kind x.p x.dst = false := by
    unfold placeB
    rw [decide_eq_false_iff_not]
    constructor
    · rintro (h | ⟨h, h' | h'⟩) ⟨g1, g2⟩
      · exact g1 h
      · exact (g2 h).1 h'
      · exact (g2 h).2 (hpq.1 h')
    · intro h
      by_cases c1 : names nameP x.p.data.toList = []
      · exact .inl c1
      refine .inr (Classical.byContradiction fun c2 => h ⟨c1, fun e => ⟨fun g => c2 ⟨e, .inl g⟩, fun g => c2 ⟨e, .inr (hpq.2 g)⟩⟩⟩)
  have f3 : (x.kind = 6 ∧ (x.at_ < 0 ∨ x.old.length + x.new.length = 0 ∨ checkN (toBs x.old) ≠ 0 ∨ checkN (toBs x.new) ≠ 0)) ↔ (x.kind = 6 ∧ linedB x.at_ x.old x.new = false) := by
    refine and_congr Iff.rfl ?_
    unfold linedB
    rw [decide_eq_false_iff_not]
    constructor
    · rintro (h | h | h | h) ⟨g1, g2, g3, g4⟩
      · omega
      · exact g2 ⟨by omega, by omega⟩
      · exact h g3
      · exact h g4
    · intro h
      by_cases c1 : x.at_ < 0
      · exact .inl c1
      by_cases c2 : x.old.length + x.new.length = 0
      · exact .inr (.inl c2)
      by_cases c3 : checkN (toBs x.old) ≠ 0
      · exact .inr (.inr (.inl c3))
      refine .inr (.inr (.inr fun c4 => h ⟨by omega, fun e => c2 (by omega), Classical.not_not.1 c3, c4⟩))
  unfold ckP
  exact ite_congr (propext f1) (fun _ => rfl) (fun _ => ite_congr (propext f2) (fun _ => rfl) (fun _ => ite_congr (propext f3) (fun _ => rfl) fun _ => rfl))
set_option maxHeartbeats 20000000 in
set_option maxRecDepth 100000 in
theorem pcheck_any (x : Pm) (w : World) (ok : x.Ok w w.heap.size) (hp : x.p.size ≤ 1000000) (hq : x.dst.size ≤ 1000000) (m1 : x.old.length ≤ 100000) (m2 : x.new.length ≤ 100000) (z1 : ∀ l ∈ x.old, l.length ≤ 100000) (z2 : ∀ l ∈ x.new, l.length ≤ 100000) (hT : Tabs w) :
    Calls Tryz.prog 27 #[x.val] w fun e w' => e = .returned (.int .i64 (ckP x.key)) ∧ Below w.heap.size w w' := by
  rw [ckP_by]
  obtain ⟨kind, p, q, at_, a1, c1, old, a2, c2, new⟩ := x
  unfold Pm.val
  simp only [] at hp hq m1 m2 z1 z2 ⊢
  have hal : Below w.heap.size w (w.alloc (.cells #[.int .i64 kind, .string p, .string q, .int .i64 at_, .slice a1 old.length c1, .slice a2 new.length c2] 38)) := (Below.refl _ _).alloc (Nat.le_refl _) _
  have HP : Hid (PAt (w.alloc (.cells #[.int .i64 kind, .string p, .string q, .int .i64 at_, .slice a1 old.length c1, .slice a2 new.length c2] 38)) w.heap.size kind p q at_ a1 old.length c1 a2 new.length c2) := PAt.new_ w kind p q at_ a1 old.length c1 a2 new.length c2
  have HA := Lib.hid hal
  clear hal
  have b0 := HP.out.k0
  have b1 := HP.out.k1
  have b2 := HP.out.k2
  have b3 := HP.out.k3
  have b4 := HP.out.k4
  have b5 := HP.out.k5
  have HO := Lib.hid (ok.on HA.out)
  have HT := Lib.hid (Tabs.on hT HA.out)
  have CF := Lib.hid (fun b hb W => formed_any kind p q at_ a1 old.length c1 a2 new.length c2 W b hb)
  have CP := Lib.hid (fun b hb W => placed_any kind p q at_ a1 old.length c1 a2 new.length c2 W hp hq b hb)
  have CL := Lib.hid (fun b hr W (hb : Below (w.alloc (.cells #[.int .i64 kind, .string p, .string q, .int .i64 at_, .slice a1 old.length c1, .slice a2 new.length c2] 38)).heap.size (w.alloc (.cells #[.int .i64 kind, .string p, .string q, .int .i64 at_, .slice a1 old.length c1, .slice a2 new.length c2] 38)) W) => lined_any kind p q at_ a1 c1 old a2 c2 new W (HO.out.h.on hb) m1 m2 z1 z2 (Tabs.on HT.out hb) b hr)
  clear ok hT z1 z2 hp hq
  cases hf : formB kind q at_ old.length new.length
  · have C1 := Lib.hid (CF.out _ hf)
    clear CF CP CL hf
    rw [if_pos rfl]
    go_enter Tryz.func27, Tryz.ntmps27
    go_wp2_with fail
    refine (C1.out _).mono ?_
    rintro e w1 ⟨rfl, hb⟩
    have HB1 := Lib.hid hb
    clear hb b0 b1 b2 b3 b4 b5
    have b0 := (HP.out.on HB1.out).k0
    have b1 := (HP.out.on HB1.out).k1
    have b2 := (HP.out.on HB1.out).k2
    have b3 := (HP.out.on HB1.out).k3
    have b4 := (HP.out.on HB1.out).k4
    have b5 := (HP.out.on HB1.out).k5
    go_wp2
    go_ret
    exact ⟨rfl, HA.out.trans (HB1.out.mono HA.out.size)⟩
  · have C1 := Lib.hid (CF.out _ hf)
    rw [if_neg (by simp)]
    cases hpl : placeB kind p q
    · have C2 := Lib.hid (CP.out _ hpl)
      clear CF CP CL hf hpl
      rw [if_pos rfl]
      go_enter Tryz.func27, Tryz.ntmps27
      go_wp2_with fail
      refine (C1.out _).mono ?_
      rintro e w1 ⟨rfl, hb⟩
      have HB1 := Lib.hid hb
      clear hb b0 b1 b2 b3 b4 b5
      have b0 := (HP.out.on HB1.out).k0
      have b1 := (HP.out.on HB1.out).k1
      have b2 := (HP.out.on HB1.out).k2
      have b3 := (HP.out.on HB1.out).k3
      have b4 := (HP.out.on HB1.out).k4
      have b5 := (HP.out.on HB1.out).k5
      go_wp2_with fail
      refine (C2.out _).mono ?_
      rintro e w2 ⟨rfl, hb⟩
      have HB2 := Lib.hid ((HB1.out).trans (hb.mono (HB1.out).size))
      clear hb b0 b1 b2 b3 b4 b5
      have b0 := (HP.out.on HB2.out).k0
      have b1 := (HP.out.on HB2.out).k1
      have b2 := (HP.out.on HB2.out).k2
      have b3 := (HP.out.on HB2.out).k3
      have b4 := (HP.out.on HB2.out).k4
      have b5 := (HP.out.on HB2.out).k5
      go_wp2
      go_ret
      exact ⟨rfl, HA.out.trans (HB2.out.mono HA.out.size)⟩
    · have C2 := Lib.hid (CP.out _ hpl)
      clear CF CP hf hpl
      rw [if_neg (by simp)]
      by_cases hk : kind = 6
      · subst hk
        cases hl : linedB at_ old new
        · have C3 := Lib.hid (CL.out _ hl)
          clear CL hl
          rw [if_pos ⟨rfl, rfl⟩]
          go_enter Tryz.func27, Tryz.ntmps27
          go_wp2_with fail
          refine (C1.out _).mono ?_
          rintro e w1 ⟨rfl, hb⟩
          have HB1 := Lib.hid hb
          clear hb b0 b1 b2 b3 b4 b5
          have b0 := (HP.out.on HB1.out).k0
          have b1 := (HP.out.on HB1.out).k1
          have b2 := (HP.out.on HB1.out).k2
          have b3 := (HP.out.on HB1.out).k3
          have b4 := (HP.out.on HB1.out).k4
          have b5 := (HP.out.on HB1.out).k5
          go_wp2_with fail
          refine (C2.out _).mono ?_
          rintro e w2 ⟨rfl, hb⟩
          have HB2 := Lib.hid ((HB1.out).trans (hb.mono (HB1.out).size))
          clear hb b0 b1 b2 b3 b4 b5
          have b0 := (HP.out.on HB2.out).k0
          have b1 := (HP.out.on HB2.out).k1
          have b2 := (HP.out.on HB2.out).k2
          have b3 := (HP.out.on HB2.out).k3
          have b4 := (HP.out.on HB2.out).k4
          have b5 := (HP.out.on HB2.out).k5
          go_wp2_with fail
          refine (C3.out _ HB2.out).mono ?_
          rintro e w3 ⟨rfl, hb⟩
          have HB3 := Lib.hid ((HB2.out).trans (hb.mono (HB2.out).size))
          clear hb b0 b1 b2 b3 b4 b5
          have b0 := (HP.out.on HB3.out).k0
          have b1 := (HP.out.on HB3.out).k1
          have b2 := (HP.out.on HB3.out).k2
          have b3 := (HP.out.on HB3.out).k3
          have b4 := (HP.out.on HB3.out).k4
          have b5 := (HP.out.on HB3.out).k5
          go_wp2
          go_ret
          exact ⟨rfl, HA.out.trans (HB3.out.mono HA.out.size)⟩
        · have C3 := Lib.hid (CL.out _ hl)
          clear CL hl
          rw [if_neg (by simp)]
          go_enter Tryz.func27, Tryz.ntmps27
          go_wp2_with fail
          refine (C1.out _).mono ?_
          rintro e w1 ⟨rfl, hb⟩
          have HB1 := Lib.hid hb
          clear hb b0 b1 b2 b3 b4 b5
          have b0 := (HP.out.on HB1.out).k0
          have b1 := (HP.out.on HB1.out).k1
          have b2 := (HP.out.on HB1.out).k2
          have b3 := (HP.out.on HB1.out).k3
          have b4 := (HP.out.on HB1.out).k4
          have b5 := (HP.out.on HB1.out).k5
          go_wp2_with fail
          refine (C2.out _).mono ?_
          rintro e w2 ⟨rfl, hb⟩
          have HB2 := Lib.hid ((HB1.out).trans (hb.mono (HB1.out).size))
          clear hb b0 b1 b2 b3 b4 b5
          have b0 := (HP.out.on HB2.out).k0
          have b1 := (HP.out.on HB2.out).k1
          have b2 := (HP.out.on HB2.out).k2
          have b3 := (HP.out.on HB2.out).k3
          have b4 := (HP.out.on HB2.out).k4
          have b5 := (HP.out.on HB2.out).k5
          go_wp2_with fail
          refine (C3.out _ HB2.out).mono ?_
          rintro e w3 ⟨rfl, hb⟩
          have HB3 := Lib.hid ((HB2.out).trans (hb.mono (HB2.out).size))
          clear hb b0 b1 b2 b3 b4 b5
          have b0 := (HP.out.on HB3.out).k0
          have b1 := (HP.out.on HB3.out).k1
          have b2 := (HP.out.on HB3.out).k2
          have b3 := (HP.out.on HB3.out).k3
          have b4 := (HP.out.on HB3.out).k4
          have b5 := (HP.out.on HB3.out).k5
          go_wp2
          go_ret
          exact ⟨rfl, HA.out.trans (HB3.out.mono HA.out.size)⟩
      · have hk2 : (kind == 6) = false := by simpa using hk
        rw [if_neg (fun h => hk h.1)]
        clear CL hk
        go_enter Tryz.func27, Tryz.ntmps27
        go_wp2_with fail
        refine (C1.out _).mono ?_
        rintro e w1 ⟨rfl, hb⟩
        have HB1 := Lib.hid hb
        clear hb b0 b1 b2 b3 b4 b5
        have b0 := (HP.out.on HB1.out).k0
        have b1 := (HP.out.on HB1.out).k1
        have b2 := (HP.out.on HB1.out).k2
        have b3 := (HP.out.on HB1.out).k3
        have b4 := (HP.out.on HB1.out).k4
        have b5 := (HP.out.on HB1.out).k5
        go_wp2_with fail
        refine (C2.out _).mono ?_
        rintro e w2 ⟨rfl, hb⟩
        have HB2 := Lib.hid ((HB1.out).trans (hb.mono (HB1.out).size))
        clear hb b0 b1 b2 b3 b4 b5
        have b0 := (HP.out.on HB2.out).k0
        have b1 := (HP.out.on HB2.out).k1
        have b2 := (HP.out.on HB2.out).k2
        have b3 := (HP.out.on HB2.out).k3
        have b4 := (HP.out.on HB2.out).k4
        have b5 := (HP.out.on HB2.out).k5
        go_wp2
        go_ret
        exact ⟨rfl, HA.out.trans (HB2.out.mono HA.out.size)⟩
end Go.Proofs.YtaepfahpbnpeiaaGreatDoor
namespace Go.Proofs.YtaepfahpbnpeiaaGreatDoor
open Go.RowKit
set_option linter.unusedVariables false

/-- Steps, one behind the other: the first error, or the files behind all. -/
def apAll (ks : List PF) : List Pk → Int × List PF
  | [] => (0, ks)
  | p :: l => if (apP ks p).1 = 0 then apAll (apP ks p).2 l else ((apP ks p).1, [])
def backP (l : List Pk) : List Pk := (l.map invP).reverse
theorem backP_back (l : List Pk) : backP (backP l) = l := by
  unfold backP
  rw [List.map_reverse, List.reverse_reverse, List.map_map]
  have e : invP ∘ invP = id := funext invP_inv
  rw [e, List.map_id]
theorem apAll_app : ∀ (a b : List Pk) (ks : List PF), apAll ks (a ++ b) = if (apAll ks a).1 = 0 then apAll (apAll ks a).2 b else ((apAll ks a).1, [])
  | [], b, ks => by simp [apAll]
  | p :: a, b, ks => by
    have ih := apAll_app a b
    rw [List.cons_append, apAll, apAll]
    by_cases h : (apP ks p).1 = 0
    · rw [if_pos h, if_pos h, ih]
    · rw [if_neg h, if_neg h, if_neg h]
theorem apAll_well : ∀ {l : List Pk} {ks res : List PF}, Well ks → apAll ks l = (0, res) → Well res
  | [], ks, res, h, hd => by
    obtain ⟨_, rfl⟩ := Prod.mk.inj hd
    exact h
  | p :: l, ks, res, h, hd => by
    unfold apAll at hd
    split at hd
    · rename_i h0
      refine apAll_well (ap_well h (p := p) (res := (apP ks p).2) ?_) hd
      rw [← h0]
    · rename_i h0
      exact absurd (Prod.mk.inj hd).1 h0
/-- What was done is taken back. -/
theorem all_back : ∀ {l : List Pk} {ks res : List PF}, Well ks → apAll ks l = (0, res) → apAll res (backP l) = (0, ks)
  | [], ks, res, h, hd => by
    obtain ⟨_, rfl⟩ := Prod.mk.inj hd
    rfl
  | p :: l, ks, res, h, hd => by
    unfold apAll at hd
    split at hd
    · rename_i h0
      have h1 : apP ks p = (0, (apP ks p).2) := by rw [← h0]
      have ih := all_back (ap_well h h1) hd
      have e : backP (p :: l) = backP l ++ [invP p] := by simp [backP]
      rw [e, apAll_app, ih, if_pos rfl]
      have h2 := ap_inv h h1
      simp [apAll, h2]
    · rename_i h0
      exact absurd (Prod.mk.inj hd).1 h0
/-- How many files there are behind a step: at most one more. -/
theorem check_iff {ls : List (List UInt8)} : checkN (toBs ls) = 0 ↔ ls.length ≤ 2000 ∧ ∀ x ∈ ls, lineB (toB x) = true := by
  unfold checkN
  rw [toBs_len]
  by_cases h : 2000 < ls.length
  · rw [if_pos h]
    constructor
    · intro e; omega
    · rintro ⟨h1, _⟩; omega
  · rw [if_neg h]
    have e : (toBs ls).all lineB = ls.all fun x => lineB (toB x) := by
      unfold toBs
      rw [List.all_map]
      rfl
    rw [e]
    by_cases ha : (ls.all fun x => lineB (toB x)) = true
    · rw [if_pos ha]
      refine ⟨fun _ => ⟨by omega, fun x hx => List.all_eq_true.1 ha x hx⟩, fun _ => rfl⟩
    · rw [if_neg ha]
      constructor
      · intro e2; omega
      · rintro ⟨_, h2⟩
        exact absurd (List.all_eq_true.2 h2) ha
theorem mem_refApp {a : List (List UInt8)} : ∀ {l : List (Hk (List UInt8))} {x : List UInt8}, x ∈ refApp a l → x ∈ a ∨ ∃ h ∈ l, x ∈ h.new
  | [], x, hx => .inl hx
  | h :: l, x, hx => by
    unfold refApp at hx
    rw [List.mem_append, List.mem_append] at hx
    have ih := fun (hy : x ∈ refApp a l) => mem_refApp hy
    rcases hx with hx | hx | hx
    · rcases ih (List.mem_of_mem_take hx) with h1 | ⟨g, hg, h1⟩
      · exact .inl h1
      · exact .inr ⟨g, List.mem_cons_of_mem _ hg, h1⟩
    · exact .inr ⟨h, by simp, hx⟩
    · rcases ih (List.mem_of_mem_drop hx) with h1 | ⟨g, hg, h1⟩
      · exact .inl h1
      · exact .inr ⟨g, List.mem_cons_of_mem _ hg, h1⟩
theorem len_refApp {a : List (List UInt8)} : ∀ (l : List (Hk (List UInt8))), (refApp a l).length ≤ a.length + sumNew l
  | [] => by simp [refApp, sumNew]
  | h :: l => by
    have ih := len_refApp (a := a) l
    rw [refApp, List.length_append, List.length_append, List.length_take, List.length_drop]
    simp only [sumNew, List.map_cons, List.sum_cons] at ih ⊢
    omega
theorem done_mem : ∀ {l : List (Hk (List UInt8))} {i : Nat} {a b : List (List UInt8)}, Done i l a b → ∀ h ∈ l, (∀ x ∈ h.old, x ∈ a) ∧ (∀ x ∈ h.new, x ∈ b)
  | [], i, a, b, _, h, hh => by cases hh
  | g :: l, i, a, b, hd, h, hh => by
    obtain ⟨c, a', b', rfl, rfl, _, h4⟩ := hd
    rcases List.mem_cons.1 hh with rfl | hh
    · exact ⟨fun x hx => by simp [hx], fun x hx => by simp [hx]⟩
    · obtain ⟨h1, h2⟩ := done_mem h4 h hh
      exact ⟨fun x hx => by have := h1 x hx; simp [this], fun x hx => by have := h2 x hx; simp [this]⟩
theorem mayDrop : ∀ (l : List (Hk (List UInt8))) (k : Nat), May l → May (l.drop k)
  | l, 0, h => h
  | [], k + 1, h => trivial
  | g :: l, k + 1, h => mayDrop l k h.2.2
theorem sumNew_drop : ∀ (l : List (Hk (List UInt8))) (k : Nat), sumNew (l.drop k) ≤ sumNew l
  | l, 0 => Nat.le_refl _
  | [], k + 1 => Nat.le_refl _
  | g :: l, k + 1 => by
    have := sumNew_drop l k
    simp only [sumNew, List.map_cons, List.sum_cons, List.drop_succ_cons] at this ⊢
    omega
/-- A hunk stands where it says, when those behind it are done. -/
theorem stands_then {la : List (List UInt8)} {h : Hk (List UInt8)} {l : List (Hk (List UInt8))} (hm : May (h :: l)) (hs : ∀ g ∈ h :: l, Stands la g) : atB (refApp la l) h.old (h.at_ : Int) = true := by
  obtain ⟨_, hf, hm2⟩ := hm
  obtain ⟨s1, s2⟩ := hs h (by simp)
  obtain ⟨b, hb⟩ := stands_done la l (h.at_ + h.old.length) s1 (hf.mono (by omega)) hm2 fun g hg => hs g (List.mem_cons_of_mem _ hg)
  have e := done_app (p := la.take (h.at_ + h.old.length)) (by rw [List.length_take]; omega) hb
  rw [List.take_append_drop, List.take_add, s2] at e
  rw [e]
  exact atB_mk (by omega) (by rw [List.length_take]; simp; omega)
theorem refApp_put (la : List (List UInt8)) (h : Hk (List UInt8)) (l : List (Hk (List UInt8))) : refApp la (h :: l) = putL (refApp la l) h.at_ h.old h.new := by
  unfold putL
  rw [refApp, List.append_assoc]
theorem with_one (x y : PF) (h : x.1 = y.1) : withK [x] y = [y] := by
  unfold withK withoutK sortK insK placeK
  simp [h]
theorem dirP_one {p : List UInt8} (h : (names nameP p).length = 1) : dirP nameP p = [] := by
  rw [dir_is, h]
  rfl
theorem well_one {p : List UInt8} {ls : List (List UInt8)} (hp : (names nameP p).length = 1) (hl : checkN (toBs ls) = 0) : Well [(p, false, ls)] := by
  refine ⟨by simp [Rise], ?_, ?_, ?_, ?_⟩
  · intro k hk
    rw [List.mem_singleton] at hk
    subst hk
    intro e
    simp only at e
    rw [e] at hp
    simp at hp
  · intro k hk
    rw [List.mem_singleton] at hk
    subst hk
    exact .inl (dirP_one hp)
  · intro k hk
    rw [List.mem_singleton] at hk
    subst hk
    exact hl
  · intro k hk hd
    rw [List.mem_singleton] at hk
    subst hk
    cases hd
/-- One of the hunks between two lists, done behind those that stand behind it. -/
theorem hunk_step {p : List UInt8} {a b : List (List UInt8)} (hp : (names nameP p).length = 1) (ha : checkN (toBs a) = 0) (hb : checkN (toBs b) = 0) (hn : a.length + b.length ≤ 2000) {k : Nat} (hk : k < (hunks a b).length) :
    apP [(p, false, refApp a ((hunks a b).drop (k + 1)))] ⟨6, p, [], ((hunks a b)[k].at_ : Int), (hunks a b)[k].old, (hunks a b)[k].new⟩ = (0, [(p, false, refApp a ((hunks a b).drop k))]) := by
  obtain ⟨hdone, hmay, hsum, hsum2⟩ := hunks_facts a b
  obtain ⟨happ, hst⟩ := hunks_app a b
  generalize hunks a b = hs at *
  have ca := check_iff.1 ha
  have cb := check_iff.1 hb
  have hmem := done_mem hdone
  have hdk : hs.drop k = hs[k] :: hs.drop (k + 1) := List.drop_eq_getElem_cons hk
  have hmd := mayDrop hs k hmay
  rw [hdk] at hmd
  have hch : ∀ j, checkN (toBs (refApp a (hs.drop j))) = 0 := fun j => by
    rw [check_iff]
    refine ⟨?_, fun x hx => ?_⟩
    · have h1 := len_refApp (a := a) (hs.drop j)
      have h2 := sumNew_drop hs j
      omega
    · rcases mem_refApp hx with h1 | ⟨g, hg, h1⟩
      · exact ca.2 x h1
      · exact cb.2 x ((hmem g (List.mem_of_mem_drop hg)).2 x h1)
  have hw := well_one (p := p) hp (hch (k + 1))
  have hne : names nameP p ≠ [] := fun e => by rw [e] at hp; simp at hp
  have ho : checkN (toBs hs[k].old) = 0 := by
    rw [check_iff]
    obtain ⟨s1, _⟩ := hst hs[k] (List.getElem_mem _)
    exact ⟨by omega, fun x hx => ca.2 x ((hmem _ (List.getElem_mem _)).1 x hx)⟩
  have hnw : checkN (toBs hs[k].new) = 0 := by
    rw [check_iff]
    have h1 : hs[k].new.length ≤ sumNew hs := by
      have h2 := sumNew_drop hs k
      rw [hdk] at h2
      simp only [sumNew, List.map_cons, List.sum_cons] at h2 ⊢
      omega
    exact ⟨by omega, fun x hx => cb.2 x ((hmem _ (List.getElem_mem _)).2 x hx)⟩
  have hck : ckP ⟨6, p, [], (hs[k].at_ : Int), hs[k].old, hs[k].new⟩ = 0 := by
    unfold ckP
    rw [if_neg, if_neg, if_neg]
    · rintro ⟨_, h | h | h | h⟩
      · simp only at h; omega
      · simp only at h
        rcases hmd.1 with h1 | h1
        · exact h1 (List.length_eq_zero_iff.1 (by omega))
        · exact h1 (List.length_eq_zero_iff.1 (by omega))
      · exact h ho
      · exact h hnw
    · rintro (h | ⟨h, _⟩)
      · exact hne h
      · simp at h
    · rintro (h | h | ⟨_, h⟩ | ⟨h, _⟩)
      · simp at h
      · simp at h
      · exact h rfl
      · exact h rfl
  have hat := stands_then hmd fun g hg => hst g (by
    rw [← hdk] at hg
    exact List.mem_of_mem_drop hg)
  have hput := refApp_put a hs[k] (hs.drop (k + 1))
  rw [← hdk] at hput
  have hover := wr_over hw (f := (p, false, refApp a (hs.drop (k + 1)))) (by simp) rfl (refApp a (hs.drop k))
  simp only at hover
  rw [with_one (p, false, refApp a (hs.drop (k + 1))) (p, false, refApp a (hs.drop k)) rfl] at hover
  unfold apP
  rw [if_neg (by simpa using hck)]
  simp [hat]
  rw [← hput, hch k]
  exact hover
end Go.Proofs.YtaepfahpbnpeiaaGreatDoor
namespace Go.Proofs.YtaepfahpbnpeiaaGreatDoor
open Go.RowKit
set_option linter.unusedVariables false

set_option maxHeartbeats 1000000 in
set_option maxRecDepth 100000 in
theorem stands_any (A : Option Addr) (la : List (List UInt8)) (cap : Nat) (h : Hm) (w : World) (d : Bool) (hd : d = atB la h.old h.at_) (hA : Strs w w.heap.size A (toBs la)) (hR : Room A la.length cap) (ok : h.Ok w w.heap.size) (h0 : 0 ≤ h.at_) (hn : la.length ≤ 1000000) (hn2 : h.old.length ≤ 1000000) :
    Calls Tryz.prog 121 #[.slice A la.length cap, .agg #[.int .i64 h.at_, .slice h.a1 h.old.length h.c1, .slice h.a2 h.new.length h.c2]] w fun e w' => e = .returned (.bool d) ∧ Below w.heap.size w w' := by
  have hb1 : Below w.heap.size w (w.alloc (.cells #[.int .i64 h.at_, .slice h.a1 h.old.length h.c1, .slice h.a2 h.new.length h.c2] 55)) := (Below.refl _ _).alloc (Nat.le_refl _) _
  have c0 := HunkAt.new_ w h
  have a0 := c0.c0
  have a1 := c0.c1
  have a2 := c0.c2
  have ok1 := ok.on hb1
  have hA1 := hA.on hb1
  have hi := ok.hi
  by_cases hle : h.at_ ≤ (la.length : Int) - (h.old.length : Int)
  · obtain ⟨k, hk⟩ : ∃ k : Nat, h.at_ = (k : Int) := ⟨h.at_.toNat, by omega⟩
    have hkl : k + h.old.length ≤ la.length := by omega
    obtain ⟨A', cap', ld, e1, p1, r1⟩ := part_mid A la cap k (k + h.old.length) hR (by omega) hkl
    have hld : ld.length = h.old.length := by rw [e1, List.length_take, List.length_drop]; omega
    rw [show k + h.old.length - k = h.old.length by omega] at e1
    have hdd : d = decide (ld = h.old) := by
      rw [hd, hk, e1]
      unfold atB
      simp only [Int.toNat_natCast]
      have t1 : decide ((0 : Int) ≤ (k : Int)) = true := by simp
      have t2 : decide ((k : Int) + (h.old.length : Int) ≤ (la.length : Int)) = true := by simp; omega
      simp only [show (h.old.length : Int) ≤ (la.length : Int) - (k : Int) by omega]
      simp
    have CO0 := lsame_qq A' h.a1 ld h.old cap' h.c1 _ d hdd.symm (p1.strs _ _ hA1) ok1.old (by omega) hn2
    rw [hld] at CO0
    have CO := Lib.hid CO0
    clear CO0
    have HB := Lib.hid hb1
    rw [hk] at a0 hle CO HB ⊢
    have i2 : IntKind.i64.wrap ((la.length : Int) - (h.old.length : Int)) = (la.length : Int) - (h.old.length : Int) := IntWalk.i64_in _ (by omega)
    have q1 : decide ((k : Int) ≤ (la.length : Int) - (h.old.length : Int)) = true := by rw [decide_eq_true_eq]; exact hle
    have i1 : IntKind.i64.wrap ((k : Int) + (h.old.length : Int)) = (k : Int) + (h.old.length : Int) := IntWalk.i64_in _ (by omega)
    have r2 : ∀ w, (Instr.slice 36 (.slice A la.length cap) (some (.int .i64 (k : Int))) (some (.int .i64 ((k : Int) + (h.old.length : Int)))) none).run Tryz.prog w = .ok (.slice A' h.old.length cap') w := by
      intro w
      have := r1 w
      rw [hld] at this
      rwa [show ((k + h.old.length : Nat) : Int) = (k : Int) + (h.old.length : Int) by omega] at this
    clear r1 e1 p1 hdd hd hld c0 ok ok1 hA hA1 hb1 hR hk h0 hi
    generalize h.old = o at *
    generalize h.new = e at *
    generalize h.a1 = x1 at *
    generalize h.a2 = x2 at *
    generalize h.c1 = x3 at *
    generalize h.c2 = x4 at *
    go_enter Tryz.func121, Tryz.ntmps121
    go_wp2
    go_quiet ((go_at_call 50; with_reducible exact CO.out _))
    go_wp2
    go_ret
    exact ⟨rfl, below_drewN HB.out _⟩
  · have hdd : d = false := by
      rw [hd]
      simp [atB]
      omega
    have HB := Lib.hid hb1
    rw [hdd]
    clear hdd hd c0 ok1 hA hA1 hb1 hR
    have i2 : IntKind.i64.wrap ((la.length : Int) - (h.old.length : Int)) = (la.length : Int) - (h.old.length : Int) := IntWalk.i64_in _ (by omega)
    have q1 : decide (h.at_ ≤ (la.length : Int) - (h.old.length : Int)) = false := by rw [decide_eq_false_iff_not]; exact hle
    have q2 := ok.hi
    clear hle ok
    generalize h.at_ = n at *
    generalize h.old.length = m1 at *
    generalize h.new.length = m2 at *
    generalize h.a1 = x1 at *
    generalize h.a2 = x2 at *
    generalize h.c1 = x3 at *
    generalize h.c2 = x4 at *
    go_enter Tryz.func121, Tryz.ntmps121
    go_wp2
    go_quiet (fail)
    go_wp2
    go_ret
    exact ⟨rfl, below_drewN HB.out _⟩
end Go.Proofs.YtaepfahpbnpeiaaGreatDoor
namespace Go.Proofs.YtaepfahpbnpeiaaGreatDoor
open Go.RowKit
set_option linter.unusedVariables false

theorem sum_take (hs : List Hm) (k : Nat) (hk : k < hs.length) : sumOld (plains (hs.take (k + 1))) = sumOld (plains (hs.take k)) + hs[k].old.length ∧ sumNew (plains (hs.take (k + 1))) = sumNew (plains (hs.take k)) + hs[k].new.length := by
  have e : hs.take (k + 1) = hs.take k ++ [hs[k]] := List.take_succ_eq_append_getElem hk
  rw [e]
  simp only [plains, sumOld, sumNew, List.map_append, List.map_cons, List.map_nil, List.sum_append, List.sum_cons, List.sum_nil, Hm.plain, Nat.add_zero]
  exact ⟨trivial, trivial⟩
theorem take_sums_le {hs : List Hm} (h : ∀ h ∈ hs, h.old.length ≤ 1000000 ∧ h.new.length ≤ 1000000) (k : Nat) (hk : k ≤ hs.length) : sumOld (plains (hs.take k)) ≤ k * 1000000 ∧ sumNew (plains (hs.take k)) ≤ k * 1000000 := by
  induction k with
  | zero => simp [plains, sumOld, sumNew]
  | succ k ih =>
    have := ih (by omega)
    obtain ⟨h1, h2⟩ := sum_take hs k (by omega)
    have := h hs[k] (List.getElem_mem _)
    omega

end Go.Proofs.YtaepfahpbnpeiaaGreatDoor
