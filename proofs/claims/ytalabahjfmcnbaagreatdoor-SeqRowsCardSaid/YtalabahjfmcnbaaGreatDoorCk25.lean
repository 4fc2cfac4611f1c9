/- The reference's Check of layer 7. -/
import Derived.BigQuiet
import Derived.Deep.QuietTactic
import Derived.Handy
import Derived.Test.YtalabahjfmcnbaaGreatDoorCk24
namespace Go.Proofs.YtalabahjfmcnbaaGreatDoor
open Go.RowKit
set_option linter.unusedVariables false

theorem refcheck_l (A : Option Addr) (ls : List (List UInt8)) (cap : Nat) (w : World) (hs : Strs w w.heap.size A (toBs ls)) (hn : ls.length ≤ 1000000) (hz : ∀ x ∈ ls, x.length ≤ 1000000) (hT : Tabs w) :
    Calls Tryz.prog 64 #[.slice A ls.length cap] w fun e w' => e = .returned (.int .i64 (checkN (toBs ls))) ∧ Below w.heap.size w w' := by
  have h := refcheck_any A (toBs ls) cap w hs (by rw [toBs_len]; omega) (fun s hs => by
    obtain ⟨x, hx, rfl⟩ := List.mem_map.1 hs
    rw [toB_size]
    have := hz x hx
    omega) hT
  rw [toBs_len] at h
  exact h
set_option maxHeartbeats 20000000 in
set_option maxRecDepth 100000 in
theorem refckp_any (x : Pm) (w : World) (ok : x.Ok w w.heap.size) (n1 : x.old.length ≤ 100000) (n2 : x.new.length ≤ 100000) (z1 : ∀ l ∈ x.old, l.length ≤ 100000) (z2 : ∀ l ∈ x.new, l.length ≤ 100000) (hT : Tabs w) :
    Calls Tryz.prog 39 #[x.val] w fun e w' => e = .returned (.int .i64 (ckP x.key)) ∧ Below w.heap.size w w' := by
  obtain ⟨kind, p, q, at_, a1, c1, old, a2, c2, new⟩ := x
  obtain ⟨r, hr⟩ : ∃ r, ckP (Pm.key ⟨kind, p, q, at_, a1, c1, old, a2, c2, new⟩) = r := ⟨_, rfl⟩
  rw [hr]
  unfold ckP Pm.key at hr
  unfold Pm.val
  simp only [] at hr n1 n2 z1 z2 ⊢
  have hal : Below w.heap.size w (w.alloc (.cells #[.int .i64 kind, .string p, .string q, .int .i64 at_, .slice a1 old.length c1, .slice a2 new.length c2] 33)) := (Below.refl _ _).alloc (Nat.le_refl _) _
  have HP : Hid (PrimAt (w.alloc (.cells #[.int .i64 kind, .string p, .string q, .int .i64 at_, .slice a1 old.length c1, .slice a2 new.length c2] 33)) w.heap.size ⟨kind, p, q, at_, a1, c1, old, a2, c2, new⟩) := PrimAt.new_ w ⟨kind, p, q, at_, a1, c1, old, a2, c2, new⟩
  have HO := Lib.hid (ok.on hal)
  have HT := Lib.hid (Tabs.on hT hal)
  have HA := Lib.hid hal
  have hp1 := ok.p
  have hq1 := ok.q
  simp only [] at hp1 hq1
  have CR := Lib.hid (fun W => refpright_any p W hp1)
  have CT := Lib.hid (fun W => refpright_any q W hq1)
  have CO := Lib.hid (fun W (hb : Below (w.alloc (.cells #[.int .i64 kind, .string p, .string q, .int .i64 at_, .slice a1 old.length c1, .slice a2 new.length c2] 33)).heap.size (w.alloc (.cells #[.int .i64 kind, .string p, .string q, .int .i64 at_, .slice a1 old.length c1, .slice a2 new.length c2] 33)) W) => refcheck_l a1 old c1 W (HO.out.h.old.on hb) (by omega) (fun x hx => by have := z1 x hx; omega) (Tabs.on HT.out hb))
  have CN := Lib.hid (fun W (hb : Below (w.alloc (.cells #[.int .i64 kind, .string p, .string q, .int .i64 at_, .slice a1 old.length c1, .slice a2 new.length c2] 33)).heap.size (w.alloc (.cells #[.int .i64 kind, .string p, .string q, .int .i64 at_, .slice a1 old.length c1, .slice a2 new.length c2] 33)) W) => refcheck_l a2 new c2 W (HO.out.h.new.on hb) (by omega) (fun x hx => by have := z2 x hx; omega) (Tabs.on HT.out hb))
  have i1 : IntKind.i64.wrap ((old.length : Int) + (new.length : Int)) = (old.length : Int) + (new.length : Int) := IntWalk.i64_in _ (by omega)
  clear hal hT ok z1 z2
  have a0 := HP.out.c0
  have a1' := HP.out.c1
  have a2' := HP.out.c2
  have a3 := HP.out.c3
  have a4 := HP.out.c4
  have a5 := HP.out.c5
  simp only [] at a0 a1' a2' a3 a4 a5
  by_cases hk1 : kind < 1
  · simp [hk1] at hr
    subst hr
    (try clear ho0)
    (try clear hw0)
    (try clear hn)
    go_enter Tryz.func39, Tryz.ntmps39
    go_wp2
    go_ret
    exact ⟨rfl, HA.out⟩
  · by_cases hk6 : 6 < kind
    · simp [hk1, hk6] at hr
      subst hr
      (try clear ho0)
      (try clear hw0)
      (try clear hn)
      go_enter Tryz.func39, Tryz.ntmps39
      go_wp2
      go_ret
      exact ⟨rfl, HA.out⟩
    · have hk : (kind = 1 ∨ kind = 2 ∨ kind = 3 ∨ kind = 4) ∨ kind = 5 ∨ kind = 6 := by omega
      clear hk1 hk6
      rcases hk with hk | rfl | rfl
      · rcases hk with rfl | rfl | rfl | rfl
        all_goals
          by_cases hq : q = ⟨#[]⟩
          · subst hq
            by_cases ha : at_ = 0
            · subst ha
              by_cases hn : 0 < old.length + new.length
              · have hn2 : (0 : Int) < (old.length : Int) + (new.length : Int) := by omega
                simp [hn] at hr
                subst hr
                (try clear ho0)
                (try clear hw0)
                (try clear hn)
                go_enter Tryz.func39, Tryz.ntmps39
                go_wp2
                go_ret
                exact ⟨rfl, HA.out⟩
              · have ho0 : old = [] := List.length_eq_zero_iff.1 (by omega)
                have hw0 : new = [] := List.length_eq_zero_iff.1 (by omega)
                have hn2 : ¬ (0 : Int) < (old.length : Int) + (new.length : Int) := by omega
                have hn3 : ((old.length : Int) + (new.length : Int) == 0) = true := by simp; omega
                by_cases hpn : names nameP p.data.toList = []
                · have CR1 := fun W => CR.out W
                  simp only [decide_eq_false (show ¬ (names nameP p.data.toList ≠ []) by simp [hpn])] at CR1
                  simp [hpn, ho0, hw0] at hr
                  subst hr
                  (try clear ho0)
                  (try clear hw0)
                  (try clear hn)
                  go_enter Tryz.func39, Tryz.ntmps39
                  go_wp2_with fail
                  refine (CR1 _).mono ?_
                  rintro e w1 ⟨rfl, hb⟩
                  have HB1 := Lib.hid hb
                  clear hb a0 a1' a2' a3 a4 a5
                  have a0 := (HP.out.on HB1.out).c0
                  have a1' := (HP.out.on HB1.out).c1
                  have a2' := (HP.out.on HB1.out).c2
                  have a3 := (HP.out.on HB1.out).c3
                  have a4 := (HP.out.on HB1.out).c4
                  have a5 := (HP.out.on HB1.out).c5
                  simp only [] at a0 a1' a2' a3 a4 a5
                  go_wp2
                  go_ret
                  exact ⟨rfl, HA.out.trans (HB1.out.mono HA.out.size)⟩
                · have CR1 := fun W => CR.out W
                  simp only [decide_eq_true (show (names nameP p.data.toList ≠ []) by simp [hpn])] at CR1
                  simp [hpn, ho0, hw0] at hr
                  subst hr
                  (try clear ho0)
                  (try clear hw0)
                  (try clear hn)
                  go_enter Tryz.func39, Tryz.ntmps39
                  go_wp2_with fail
                  refine (CR1 _).mono ?_
                  rintro e w1 ⟨rfl, hb⟩
                  have HB1 := Lib.hid hb
                  clear hb a0 a1' a2' a3 a4 a5
                  have a0 := (HP.out.on HB1.out).c0
                  have a1' := (HP.out.on HB1.out).c1
                  have a2' := (HP.out.on HB1.out).c2
                  have a3 := (HP.out.on HB1.out).c3
                  have a4 := (HP.out.on HB1.out).c4
                  have a5 := (HP.out.on HB1.out).c5
                  simp only [] at a0 a1' a2' a3 a4 a5
                  go_wp2
                  go_ret
                  exact ⟨rfl, HA.out.trans (HB1.out.mono HA.out.size)⟩
            · have ha2 : (at_ == 0) = false := by simpa using ha
              have ha3 : (at_ != 0) = true := by simpa using ha
              simp [ha] at hr
              subst hr
              (try clear ho0)
              (try clear hw0)
              (try clear hn)
              go_enter Tryz.func39, Tryz.ntmps39
              go_wp2
              go_ret
              exact ⟨rfl, HA.out⟩
          · have hq2 : (q.toList == []) = false := str_ne_empty hq
            have hq3 : (q.toList != []) = true := by simp [bne, hq2]
            have hq4 : q.data.toList ≠ [] := fun e => hq (by rw [← toB_of q, e]; rfl)
            simp [hq4] at hr
            subst hr
            (try clear ho0)
            (try clear hw0)
            (try clear hn)
            go_enter Tryz.func39, Tryz.ntmps39
            go_wp2
            go_ret
            exact ⟨rfl, HA.out⟩
      · by_cases ha : at_ = 0
        · subst ha
          by_cases hn : 0 < old.length + new.length
          · have hn2 : (0 : Int) < (old.length : Int) + (new.length : Int) := by omega
            simp [hn] at hr
            subst hr
            (try clear ho0)
            (try clear hw0)
            (try clear hn)
            go_enter Tryz.func39, Tryz.ntmps39
            go_wp2
            go_ret
            exact ⟨rfl, HA.out⟩
          · have ho0 : old = [] := List.length_eq_zero_iff.1 (by omega)
            have hw0 : new = [] := List.length_eq_zero_iff.1 (by omega)
            have hn2 : ¬ (0 : Int) < (old.length : Int) + (new.length : Int) := by omega
            have hn3 : ((old.length : Int) + (new.length : Int) == 0) = true := by simp; omega
            by_cases hpn : names nameP p.data.toList = []
            · have CR1 := fun W => CR.out W
              simp only [decide_eq_false (show ¬ (names nameP p.data.toList ≠ []) by simp [hpn])] at CR1
              simp [hpn, ho0, hw0] at hr
              subst hr
              (try clear ho0)
              (try clear hw0)
              (try clear hn)
              go_enter Tryz.func39, Tryz.ntmps39
              go_wp2_with fail
              refine (CR1 _).mono ?_
              rintro e w1 ⟨rfl, hb⟩
              have HB1 := Lib.hid hb
              clear hb a0 a1' a2' a3 a4 a5
              have a0 := (HP.out.on HB1.out).c0
              have a1' := (HP.out.on HB1.out).c1
              have a2' := (HP.out.on HB1.out).c2
              have a3 := (HP.out.on HB1.out).c3
              have a4 := (HP.out.on HB1.out).c4
              have a5 := (HP.out.on HB1.out).c5
              simp only [] at a0 a1' a2' a3 a4 a5
              go_wp2
              go_ret
              exact ⟨rfl, HA.out.trans (HB1.out.mono HA.out.size)⟩
            · by_cases hqn : names nameP q.data.toList = []
              · have CR1 := fun W => CR.out W
                simp only [decide_eq_true (show (names nameP p.data.toList ≠ []) by simp [hpn])] at CR1
                have CT1 := fun W => CT.out W
                simp only [decide_eq_false (show ¬ (names nameP q.data.toList ≠ []) by simp [hqn])] at CT1
                simp [hpn, hqn, ho0, hw0] at hr
                subst hr
                (try clear ho0)
                (try clear hw0)
                (try clear hn)
                go_enter Tryz.func39, Tryz.ntmps39
                go_wp2_with fail
                refine (CR1 _).mono ?_
                rintro e w1 ⟨rfl, hb⟩
                have HB1 := Lib.hid hb
                clear hb a0 a1' a2' a3 a4 a5
                have a0 := (HP.out.on HB1.out).c0
                have a1' := (HP.out.on HB1.out).c1
                have a2' := (HP.out.on HB1.out).c2
                have a3 := (HP.out.on HB1.out).c3
                have a4 := (HP.out.on HB1.out).c4
                have a5 := (HP.out.on HB1.out).c5
                simp only [] at a0 a1' a2' a3 a4 a5
                go_wp2_with fail
                refine (CT1 _).mono ?_
                rintro e w2 ⟨rfl, hb⟩
                have HB2 := Lib.hid ((HB1.out).trans (hb.mono (HB1.out).size))
                clear hb a0 a1' a2' a3 a4 a5
                have a0 := (HP.out.on HB2.out).c0
                have a1' := (HP.out.on HB2.out).c1
                have a2' := (HP.out.on HB2.out).c2
                have a3 := (HP.out.on HB2.out).c3
                have a4 := (HP.out.on HB2.out).c4
                have a5 := (HP.out.on HB2.out).c5
                simp only [] at a0 a1' a2' a3 a4 a5
                go_wp2
                go_ret
                exact ⟨rfl, HA.out.trans (HB2.out.mono HA.out.size)⟩
              · by_cases hpq : p = q
                · subst hpq
                  have CR1 := fun W => CR.out W
                  simp only [decide_eq_true (show (names nameP p.data.toList ≠ []) by simp [hpn])] at CR1
                  have CT1 := CR1
                  have hbe : (p.toList == p.toList) = true := by simp
                  simp [hpn, ho0, hw0] at hr
                  subst hr
                  (try clear ho0)
                  (try clear hw0)
                  (try clear hn)
                  go_enter Tryz.func39, Tryz.ntmps39
                  go_wp2_with fail
                  refine (CR1 _).mono ?_
                  rintro e w1 ⟨rfl, hb⟩
                  have HB1 := Lib.hid hb
                  clear hb a0 a1' a2' a3 a4 a5
                  have a0 := (HP.out.on HB1.out).c0
                  have a1' := (HP.out.on HB1.out).c1
                  have a2' := (HP.out.on HB1.out).c2
                  have a3 := (HP.out.on HB1.out).c3
                  have a4 := (HP.out.on HB1.out).c4
                  have a5 := (HP.out.on HB1.out).c5
                  simp only [] at a0 a1' a2' a3 a4 a5
                  go_wp2_with fail
                  refine (CT1 _).mono ?_
                  rintro e w2 ⟨rfl, hb⟩
                  have HB2 := Lib.hid ((HB1.out).trans (hb.mono (HB1.out).size))
                  clear hb a0 a1' a2' a3 a4 a5
                  have a0 := (HP.out.on HB2.out).c0
                  have a1' := (HP.out.on HB2.out).c1
                  have a2' := (HP.out.on HB2.out).c2
                  have a3 := (HP.out.on HB2.out).c3
                  have a4 := (HP.out.on HB2.out).c4
                  have a5 := (HP.out.on HB2.out).c5
                  simp only [] at a0 a1' a2' a3 a4 a5
                  go_wp2
                  go_ret
                  exact ⟨rfl, HA.out.trans (HB2.out.mono HA.out.size)⟩
                · have CR1 := fun W => CR.out W
                  simp only [decide_eq_true (show (names nameP p.data.toList ≠ []) by simp [hpn])] at CR1
                  have CT1 := fun W => CT.out W
                  simp only [decide_eq_true (show (names nameP q.data.toList ≠ []) by simp [hqn])] at CT1
                  have hbe := str_ne hpq
                  have hpq2 : ¬ p.data.toList = q.data.toList := fun e => hpq (bytes_inj e)
                  simp [hpn, hqn, hpq2, ho0, hw0] at hr
                  subst hr
                  (try clear ho0)
                  (try clear hw0)
                  (try clear hn)
                  go_enter Tryz.func39, Tryz.ntmps39
                  go_wp2_with fail
                  refine (CR1 _).mono ?_
                  rintro e w1 ⟨rfl, hb⟩
                  have HB1 := Lib.hid hb
                  clear hb a0 a1' a2' a3 a4 a5
                  have a0 := (HP.out.on HB1.out).c0
                  have a1' := (HP.out.on HB1.out).c1
                  have a2' := (HP.out.on HB1.out).c2
                  have a3 := (HP.out.on HB1.out).c3
                  have a4 := (HP.out.on HB1.out).c4
                  have a5 := (HP.out.on HB1.out).c5
                  simp only [] at a0 a1' a2' a3 a4 a5
                  go_wp2_with fail
                  refine (CT1 _).mono ?_
                  rintro e w2 ⟨rfl, hb⟩
                  have HB2 := Lib.hid ((HB1.out).trans (hb.mono (HB1.out).size))
                  clear hb a0 a1' a2' a3 a4 a5
                  have a0 := (HP.out.on HB2.out).c0
                  have a1' := (HP.out.on HB2.out).c1
                  have a2' := (HP.out.on HB2.out).c2
                  have a3 := (HP.out.on HB2.out).c3
                  have a4 := (HP.out.on HB2.out).c4
                  have a5 := (HP.out.on HB2.out).c5
                  simp only [] at a0 a1' a2' a3 a4 a5
                  go_wp2
                  go_ret
                  exact ⟨rfl, HA.out.trans (HB2.out.mono HA.out.size)⟩
        · have ha2 : (at_ == 0) = false := by simpa using ha
          have ha3 : (at_ != 0) = true := by simpa using ha
          simp [ha] at hr
          subst hr
          (try clear ho0)
          (try clear hw0)
          (try clear hn)
          go_enter Tryz.func39, Tryz.ntmps39
          go_wp2
          go_ret
          exact ⟨rfl, HA.out⟩
      · by_cases hq : q = ⟨#[]⟩
        · subst hq
          by_cases hpn : names nameP p.data.toList = []
          · have CR1 := fun W => CR.out W
            simp only [decide_eq_false (show ¬ (names nameP p.data.toList ≠ []) by simp [hpn])] at CR1
            simp [hpn] at hr
            subst hr
            (try clear ho0)
            (try clear hw0)
            (try clear hn)
            go_enter Tryz.func39, Tryz.ntmps39
            go_wp2_with fail
            refine (CR1 _).mono ?_
            rintro e w1 ⟨rfl, hb⟩
            have HB1 := Lib.hid hb
            clear hb a0 a1' a2' a3 a4 a5
            have a0 := (HP.out.on HB1.out).c0
            have a1' := (HP.out.on HB1.out).c1
            have a2' := (HP.out.on HB1.out).c2
            have a3 := (HP.out.on HB1.out).c3
            have a4 := (HP.out.on HB1.out).c4
            have a5 := (HP.out.on HB1.out).c5
            simp only [] at a0 a1' a2' a3 a4 a5
            go_wp2
            go_ret
            exact ⟨rfl, HA.out.trans (HB1.out.mono HA.out.size)⟩
          · by_cases ha : at_ < 0
            · have CR1 := fun W => CR.out W
              simp only [decide_eq_true (show (names nameP p.data.toList ≠ []) by simp [hpn])] at CR1
              simp [hpn, ha] at hr
              subst hr
              (try clear ho0)
              (try clear hw0)
              (try clear hn)
              go_enter Tryz.func39, Tryz.ntmps39
              go_wp2_with fail
              refine (CR1 _).mono ?_
              rintro e w1 ⟨rfl, hb⟩
              have HB1 := Lib.hid hb
              clear hb a0 a1' a2' a3 a4 a5
              have a0 := (HP.out.on HB1.out).c0
              have a1' := (HP.out.on HB1.out).c1
              have a2' := (HP.out.on HB1.out).c2
              have a3 := (HP.out.on HB1.out).c3
              have a4 := (HP.out.on HB1.out).c4
              have a5 := (HP.out.on HB1.out).c5
              simp only [] at a0 a1' a2' a3 a4 a5
              go_wp2
              go_ret
              exact ⟨rfl, HA.out.trans (HB1.out.mono HA.out.size)⟩
            · by_cases hn : old.length + new.length = 0
              · have CR1 := fun W => CR.out W
                simp only [decide_eq_true (show (names nameP p.data.toList ≠ []) by simp [hpn])] at CR1
                have hn2 : ¬ (0 : Int) < (old.length : Int) + (new.length : Int) := by omega
                have hn3 : ((old.length : Int) + (new.length : Int) == 0) = true := by simp; omega
                have ho0 : old = [] := List.length_eq_zero_iff.1 (by omega)
                have hw0 : new = [] := List.length_eq_zero_iff.1 (by omega)
                simp [hpn, ha, ho0, hw0] at hr
                subst hr
                (try clear ho0)
                (try clear hw0)
                (try clear hn)
                go_enter Tryz.func39, Tryz.ntmps39
                go_wp2_with fail
                refine (CR1 _).mono ?_
                rintro e w1 ⟨rfl, hb⟩
                have HB1 := Lib.hid hb
                clear hb a0 a1' a2' a3 a4 a5
                have a0 := (HP.out.on HB1.out).c0
                have a1' := (HP.out.on HB1.out).c1
                have a2' := (HP.out.on HB1.out).c2
                have a3 := (HP.out.on HB1.out).c3
                have a4 := (HP.out.on HB1.out).c4
                have a5 := (HP.out.on HB1.out).c5
                simp only [] at a0 a1' a2' a3 a4 a5
                go_wp2
                go_ret
                exact ⟨rfl, HA.out.trans (HB1.out.mono HA.out.size)⟩
              · have hn2 : (0 : Int) < (old.length : Int) + (new.length : Int) := by omega
                have hn3 : ((old.length : Int) + (new.length : Int) == 0) = false := by simp; omega
                have hn4 : ¬ (old.length + new.length = 0) := by omega
                have hn5 : old = [] → new ≠ [] := fun e e2 => by simp [e, e2] at hn4
                have hn6 : (old = [] ∧ new = []) = False := eq_false fun h => hn5 h.1 h.2
                obtain ⟨co, hcoe⟩ : ∃ c, checkN (toBs old) = c := ⟨_, rfl⟩
                obtain ⟨cn, hcne⟩ : ∃ c, checkN (toBs new) = c := ⟨_, rfl⟩
                rw [hcoe] at hr CO
                rw [hcne] at hr CN
                clear hcoe hcne
                by_cases hco : co = 0
                · subst hco
                  by_cases hcn : cn = 0
                  · subst hcn
                    have CR1 := fun W => CR.out W
                    simp only [decide_eq_true (show (names nameP p.data.toList ≠ []) by simp [hpn])] at CR1
                    simp [hpn, ha, hn6] at hr
                    subst hr
                    (try clear ho0)
                    (try clear hw0)
                    (try clear hn)
                    go_enter Tryz.func39, Tryz.ntmps39
                    go_wp2_with fail
                    refine (CR1 _).mono ?_
                    rintro e w1 ⟨rfl, hb⟩
                    have HB1 := Lib.hid hb
                    clear hb a0 a1' a2' a3 a4 a5
                    have a0 := (HP.out.on HB1.out).c0
                    have a1' := (HP.out.on HB1.out).c1
                    have a2' := (HP.out.on HB1.out).c2
                    have a3 := (HP.out.on HB1.out).c3
                    have a4 := (HP.out.on HB1.out).c4
                    have a5 := (HP.out.on HB1.out).c5
                    simp only [] at a0 a1' a2' a3 a4 a5
                    go_wp2_with fail
                    refine (CO.out _ HB1.out).mono ?_
                    rintro e w2 ⟨rfl, hb⟩
                    have HB2 := Lib.hid ((HB1.out).trans (hb.mono (HB1.out).size))
                    clear hb a0 a1' a2' a3 a4 a5
                    have a0 := (HP.out.on HB2.out).c0
                    have a1' := (HP.out.on HB2.out).c1
                    have a2' := (HP.out.on HB2.out).c2
                    have a3 := (HP.out.on HB2.out).c3
                    have a4 := (HP.out.on HB2.out).c4
                    have a5 := (HP.out.on HB2.out).c5
                    simp only [] at a0 a1' a2' a3 a4 a5
                    go_wp2_with fail
                    refine (CN.out _ HB2.out).mono ?_
                    rintro e w3 ⟨rfl, hb⟩
                    have HB3 := Lib.hid ((HB2.out).trans (hb.mono (HB2.out).size))
                    clear hb a0 a1' a2' a3 a4 a5
                    have a0 := (HP.out.on HB3.out).c0
                    have a1' := (HP.out.on HB3.out).c1
                    have a2' := (HP.out.on HB3.out).c2
                    have a3 := (HP.out.on HB3.out).c3
                    have a4 := (HP.out.on HB3.out).c4
                    have a5 := (HP.out.on HB3.out).c5
                    simp only [] at a0 a1' a2' a3 a4 a5
                    go_wp2
                    go_ret
                    exact ⟨rfl, HA.out.trans (HB3.out.mono HA.out.size)⟩
                  · have hcb : (cn == 0) = false := by simpa using hcn
                    have hcb2 : (cn != 0) = true := by simpa using hcn
                    have CR1 := fun W => CR.out W
                    simp only [decide_eq_true (show (names nameP p.data.toList ≠ []) by simp [hpn])] at CR1
                    simp [hpn, ha, hn6, hcn] at hr
                    subst hr
                    (try clear ho0)
                    (try clear hw0)
                    (try clear hn)
                    go_enter Tryz.func39, Tryz.ntmps39
                    go_wp2_with fail
                    refine (CR1 _).mono ?_
                    rintro e w1 ⟨rfl, hb⟩
                    have HB1 := Lib.hid hb
                    clear hb a0 a1' a2' a3 a4 a5
                    have a0 := (HP.out.on HB1.out).c0
                    have a1' := (HP.out.on HB1.out).c1
                    have a2' := (HP.out.on HB1.out).c2
                    have a3 := (HP.out.on HB1.out).c3
                    have a4 := (HP.out.on HB1.out).c4
                    have a5 := (HP.out.on HB1.out).c5
                    simp only [] at a0 a1' a2' a3 a4 a5
                    go_wp2_with fail
                    refine (CO.out _ HB1.out).mono ?_
                    rintro e w2 ⟨rfl, hb⟩
                    have HB2 := Lib.hid ((HB1.out).trans (hb.mono (HB1.out).size))
                    clear hb a0 a1' a2' a3 a4 a5
                    have a0 := (HP.out.on HB2.out).c0
                    have a1' := (HP.out.on HB2.out).c1
                    have a2' := (HP.out.on HB2.out).c2
                    have a3 := (HP.out.on HB2.out).c3
                    have a4 := (HP.out.on HB2.out).c4
                    have a5 := (HP.out.on HB2.out).c5
                    simp only [] at a0 a1' a2' a3 a4 a5
                    go_wp2_with fail
                    refine (CN.out _ HB2.out).mono ?_
                    rintro e w3 ⟨rfl, hb⟩
                    have HB3 := Lib.hid ((HB2.out).trans (hb.mono (HB2.out).size))
                    clear hb a0 a1' a2' a3 a4 a5
                    have a0 := (HP.out.on HB3.out).c0
                    have a1' := (HP.out.on HB3.out).c1
                    have a2' := (HP.out.on HB3.out).c2
                    have a3 := (HP.out.on HB3.out).c3
                    have a4 := (HP.out.on HB3.out).c4
                    have a5 := (HP.out.on HB3.out).c5
                    simp only [] at a0 a1' a2' a3 a4 a5
                    go_wp2
                    go_ret
                    exact ⟨rfl, HA.out.trans (HB3.out.mono HA.out.size)⟩
                · have hcb : (co == 0) = false := by simpa using hco
                  have hcb2 : (co != 0) = true := by simpa using hco
                  have CR1 := fun W => CR.out W
                  simp only [decide_eq_true (show (names nameP p.data.toList ≠ []) by simp [hpn])] at CR1
                  simp [hpn, ha, hn6, hco] at hr
                  subst hr
                  (try clear ho0)
                  (try clear hw0)
                  (try clear hn)
                  go_enter Tryz.func39, Tryz.ntmps39
                  go_wp2_with fail
                  refine (CR1 _).mono ?_
                  rintro e w1 ⟨rfl, hb⟩
                  have HB1 := Lib.hid hb
                  clear hb a0 a1' a2' a3 a4 a5
                  have a0 := (HP.out.on HB1.out).c0
                  have a1' := (HP.out.on HB1.out).c1
                  have a2' := (HP.out.on HB1.out).c2
                  have a3 := (HP.out.on HB1.out).c3
                  have a4 := (HP.out.on HB1.out).c4
                  have a5 := (HP.out.on HB1.out).c5
                  simp only [] at a0 a1' a2' a3 a4 a5
                  go_wp2_with fail
                  refine (CO.out _ HB1.out).mono ?_
                  rintro e w2 ⟨rfl, hb⟩
                  have HB2 := Lib.hid ((HB1.out).trans (hb.mono (HB1.out).size))
                  clear hb a0 a1' a2' a3 a4 a5
                  have a0 := (HP.out.on HB2.out).c0
                  have a1' := (HP.out.on HB2.out).c1
                  have a2' := (HP.out.on HB2.out).c2
                  have a3 := (HP.out.on HB2.out).c3
                  have a4 := (HP.out.on HB2.out).c4
                  have a5 := (HP.out.on HB2.out).c5
                  simp only [] at a0 a1' a2' a3 a4 a5
                  go_wp2
                  go_ret
                  exact ⟨rfl, HA.out.trans (HB2.out.mono HA.out.size)⟩
        · have hq2 : (q.toList == []) = false := str_ne_empty hq
          have hq3 : (q.toList != []) = true := by simp [bne, hq2]
          have hq4 : q.data.toList ≠ [] := fun e => hq (by rw [← toB_of q, e]; rfl)
          simp [hq4] at hr
          subst hr
          (try clear ho0)
          (try clear hw0)
          (try clear hn)
          go_enter Tryz.func39, Tryz.ntmps39
          go_wp2
          go_ret
          exact ⟨rfl, HA.out⟩
end Go.Proofs.YtalabahjfmcnbaaGreatDoor
