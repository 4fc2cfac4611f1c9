/- Package prim's bare, formed. Package prim's placed, hunks, lined. -/
import Derived.BigQuiet
import Derived.Deep.QuietTactic
import Derived.Handy
import Derived.Test.YtalabahjfmcnbaaGreatDoorShelf
import Derived.Test.YtalabahjfmcnbaaGreatDoorCk06
namespace Go.Proofs.YtalabahjfmcnbaaGreatDoor
open Go.RowKit
set_option linter.unusedVariables false

set_option maxHeartbeats 20000000 in
set_option maxRecDepth 100000 in
theorem bare_any (kind : Int) (p q : ByteArray) (at_ : Int) (a1 : Option Addr) (n1 c1 : Nat) (a2 : Option Addr) (n2 c2 : Nat) (w : World) (r : Bool) (hr : decide (at_ = 0 ∧ n1 = 0 ∧ n2 = 0) = r) :
    Calls Tryz.prog 131 #[.agg #[.int .i64 kind, .string p, .string q, .int .i64 at_, .slice a1 n1 c1, .slice a2 n2 c2]] w fun e w' => e = .returned (.bool r) ∧ Below w.heap.size w w' := by
  by_cases ha : at_ = 0
  · subst ha
    by_cases hn1 : n1 = 0
    · subst hn1
      by_cases hn2 : n2 = 0
      · subst hn2
        have hal : Below w.heap.size w (w.alloc (.cells #[.int .i64 kind, .string p, .string q, .int .i64 0, .slice a1 0 c1, .slice a2 0 c2] 33)) := (Below.refl _ _).alloc (Nat.le_refl _) _
        have HP : Hid (PAt (w.alloc (.cells #[.int .i64 kind, .string p, .string q, .int .i64 0, .slice a1 0 c1, .slice a2 0 c2] 33)) w.heap.size kind p q 0 a1 0 c1 a2 0 c2) := PAt.new_ w kind p q 0 a1 0 c1 a2 0 c2
        have HA := Lib.hid hal
        clear hal
        have b0 := HP.out.k0
        have b1 := HP.out.k1
        have b2 := HP.out.k2
        have b3 := HP.out.k3
        have b4 := HP.out.k4
        have b5 := HP.out.k5
        simp at hr
        subst hr
        go_enter Tryz.func131, Tryz.ntmps131
        go_wp2
        go_ret
        exact ⟨rfl, HA.out⟩
      · have hn22 : (((n2 : Nat) : Int) == 0) = false := by simpa using hn2
        have hal : Below w.heap.size w (w.alloc (.cells #[.int .i64 kind, .string p, .string q, .int .i64 0, .slice a1 0 c1, .slice a2 n2 c2] 33)) := (Below.refl _ _).alloc (Nat.le_refl _) _
        have HP : Hid (PAt (w.alloc (.cells #[.int .i64 kind, .string p, .string q, .int .i64 0, .slice a1 0 c1, .slice a2 n2 c2] 33)) w.heap.size kind p q 0 a1 0 c1 a2 n2 c2) := PAt.new_ w kind p q 0 a1 0 c1 a2 n2 c2
        have HA := Lib.hid hal
        clear hal
        have b0 := HP.out.k0
        have b1 := HP.out.k1
        have b2 := HP.out.k2
        have b3 := HP.out.k3
        have b4 := HP.out.k4
        have b5 := HP.out.k5
        simp [hn2] at hr
        subst hr
        go_enter Tryz.func131, Tryz.ntmps131
        go_wp2
        go_ret
        exact ⟨rfl, HA.out⟩
    · have hn12 : (((n1 : Nat) : Int) == 0) = false := by simpa using hn1
      have hal : Below w.heap.size w (w.alloc (.cells #[.int .i64 kind, .string p, .string q, .int .i64 0, .slice a1 n1 c1, .slice a2 n2 c2] 33)) := (Below.refl _ _).alloc (Nat.le_refl _) _
      have HP : Hid (PAt (w.alloc (.cells #[.int .i64 kind, .string p, .string q, .int .i64 0, .slice a1 n1 c1, .slice a2 n2 c2] 33)) w.heap.size kind p q 0 a1 n1 c1 a2 n2 c2) := PAt.new_ w kind p q 0 a1 n1 c1 a2 n2 c2
      have HA := Lib.hid hal
      clear hal
      have b0 := HP.out.k0
      have b1 := HP.out.k1
      have b2 := HP.out.k2
      have b3 := HP.out.k3
      have b4 := HP.out.k4
      have b5 := HP.out.k5
      simp [hn1] at hr
      subst hr
      go_enter Tryz.func131, Tryz.ntmps131
      go_wp2
      go_ret
      exact ⟨rfl, HA.out⟩
  · have ha2 : (at_ == 0) = false := by simpa using ha
    have hal : Below w.heap.size w (w.alloc (.cells #[.int .i64 kind, .string p, .string q, .int .i64 at_, .slice a1 n1 c1, .slice a2 n2 c2] 33)) := (Below.refl _ _).alloc (Nat.le_refl _) _
    have HP : Hid (PAt (w.alloc (.cells #[.int .i64 kind, .string p, .string q, .int .i64 at_, .slice a1 n1 c1, .slice a2 n2 c2] 33)) w.heap.size kind p q at_ a1 n1 c1 a2 n2 c2) := PAt.new_ w kind p q at_ a1 n1 c1 a2 n2 c2
    have HA := Lib.hid hal
    clear hal
    have b0 := HP.out.k0
    have b1 := HP.out.k1
    have b2 := HP.out.k2
    have b3 := HP.out.k3
    have b4 := HP.out.k4
    have b5 := HP.out.k5
    simp [ha] at hr
    subst hr
    go_enter Tryz.func131, Tryz.ntmps131
    go_wp2
    go_ret
    exact ⟨rfl, HA.out⟩
/-- Has a step a kind, and no part that this kind has not? -/
def formB (kind : Int) (q : ByteArray) (at_ : Int) (n1 n2 : Nat) : Bool := decide ((1 ≤ kind ∧ kind ≤ 6) ∧ (kind ≠ 5 → q = ⟨#[]⟩) ∧ (kind ≠ 6 → at_ = 0 ∧ n1 = 0 ∧ n2 = 0))
set_option maxHeartbeats 20000000 in
set_option maxRecDepth 100000 in
theorem formed_any (kind : Int) (p q : ByteArray) (at_ : Int) (a1 : Option Addr) (n1 c1 : Nat) (a2 : Option Addr) (n2 c2 : Nat) (w : World) (r : Bool) (hr : formB kind q at_ n1 n2 = r) :
    Calls Tryz.prog 89 #[.agg #[.int .i64 kind, .string p, .string q, .int .i64 at_, .slice a1 n1 c1, .slice a2 n2 c2]] w fun e w' => e = .returned (.bool r) ∧ Below w.heap.size w w' := by
  have CB := Lib.hid (fun (b : Bool) (hb : decide (at_ = 0 ∧ n1 = 0 ∧ n2 = 0) = b) W => bare_any kind p q at_ a1 n1 c1 a2 n2 c2 W b hb)
  have hal : Below w.heap.size w (w.alloc (.cells #[.int .i64 kind, .string p, .string q, .int .i64 at_, .slice a1 n1 c1, .slice a2 n2 c2] 33)) := (Below.refl _ _).alloc (Nat.le_refl _) _
  have HP : Hid (PAt (w.alloc (.cells #[.int .i64 kind, .string p, .string q, .int .i64 at_, .slice a1 n1 c1, .slice a2 n2 c2] 33)) w.heap.size kind p q at_ a1 n1 c1 a2 n2 c2) := PAt.new_ w kind p q at_ a1 n1 c1 a2 n2 c2
  have HA := Lib.hid hal
  clear hal
  have b0 := HP.out.k0
  have b1 := HP.out.k1
  have b2 := HP.out.k2
  have b3 := HP.out.k3
  have b4 := HP.out.k4
  have b5 := HP.out.k5
  unfold formB at hr
  by_cases hk1 : kind < 1
  · have e1 : ∀ j : Int, 1 ≤ j → (kind == j) = false := fun j hj => by simp; omega
    have e11 := e1 1 (by decide)
    have e12 := e1 2 (by decide)
    have e13 := e1 3 (by decide)
    have e14 := e1 4 (by decide)
    have e15 := e1 5 (by decide)
    have e16 := e1 6 (by decide)
    have hk2 : ¬ 1 ≤ kind := by omega
    clear CB e1
    simp [hk2] at hr
    subst hr
    go_enter Tryz.func89, Tryz.ntmps89
    go_wp2
    go_ret
    exact ⟨rfl, HA.out⟩
  · by_cases hk6 : 6 < kind
    · have e1 : ∀ j : Int, j ≤ 6 → (kind == j) = false := fun j hj => by simp; omega
      have e11 := e1 1 (by decide)
      have e12 := e1 2 (by decide)
      have e13 := e1 3 (by decide)
      have e14 := e1 4 (by decide)
      have e15 := e1 5 (by decide)
      have e16 := e1 6 (by decide)
      have hk2 : ¬ kind ≤ 6 := by omega
      clear CB e1
      simp [hk2] at hr
      subst hr
      go_enter Tryz.func89, Tryz.ntmps89
      go_wp2
      go_ret
      exact ⟨rfl, HA.out⟩
    · have hk : (kind = 1 ∨ kind = 2 ∨ kind = 3 ∨ kind = 4) ∨ kind = 5 ∨ kind = 6 := by omega
      clear hk1 hk6
      rcases hk with hk | rfl | rfl
      · by_cases hq : q = ⟨#[]⟩
        · have hq2 := q_empty hq
          rcases hk with rfl | rfl | rfl | rfl
          all_goals
            obtain ⟨b, hb⟩ : ∃ b, decide (at_ = 0 ∧ n1 = 0 ∧ n2 = 0) = b := ⟨_, rfl⟩
            have CB1 := Lib.hid (CB.out b hb)
            have hrb : r = b := by rw [← hr, ← hb]; simp [hq]
            subst hrb
            clear hr hb CB hq
            go_enter Tryz.func89, Tryz.ntmps89
            go_wp2_with fail
            refine (CB1.out _).mono ?_
            rintro e w1 ⟨rfl, hb⟩
            have HB1 := Lib.hid hb
            clear hb b0 b1 b2 b3 b4 b5
            have b0 := (HP.out.on HB1.out).k0
            have b1 := (HP.out.on HB1.out).k1
            have b2 := (HP.out.on HB1.out).k2
            have b3 := (HP.out.on HB1.out).k3
            have b4 := (HP.out.on HB1.out).k4
            have b5 := (HP.out.on HB1.out).k5
            go_wp2
            go_ret
            exact ⟨rfl, HA.out.trans (HB1.out.mono HA.out.size)⟩
        · have hq2 : (q.toList == []) = false := str_ne_empty hq
          clear CB
          rcases hk with rfl | rfl | rfl | rfl
          all_goals
            simp [hq] at hr
            subst hr
            clear hq
            go_enter Tryz.func89, Tryz.ntmps89
            go_wp2
            go_ret
            exact ⟨rfl, HA.out⟩
      · obtain ⟨b, hb⟩ : ∃ b, decide (at_ = 0 ∧ n1 = 0 ∧ n2 = 0) = b := ⟨_, rfl⟩
        have CB1 := Lib.hid (CB.out b hb)
        have hrb : r = b := by rw [← hr, ← hb]; simp 
        subst hrb
        clear hr hb CB
        go_enter Tryz.func89, Tryz.ntmps89
        go_wp2_with fail
        refine (CB1.out _).mono ?_
        rintro e w1 ⟨rfl, hb⟩
        have HB1 := Lib.hid hb
        clear hb b0 b1 b2 b3 b4 b5
        have b0 := (HP.out.on HB1.out).k0
        have b1 := (HP.out.on HB1.out).k1
        have b2 := (HP.out.on HB1.out).k2
        have b3 := (HP.out.on HB1.out).k3
        have b4 := (HP.out.on HB1.out).k4
        have b5 := (HP.out.on HB1.out).k5
        go_wp2
        go_ret
        exact ⟨rfl, HA.out.trans (HB1.out.mono HA.out.size)⟩
      · clear CB
        by_cases hq : q = ⟨#[]⟩
        · have hq2 := q_empty hq
          simp [hq] at hr
          subst hr
          clear hq
          go_enter Tryz.func89, Tryz.ntmps89
          go_wp2
          go_ret
          exact ⟨rfl, HA.out⟩
        · have hq2 : (q.toList == []) = false := str_ne_empty hq
          simp [hq] at hr
          subst hr
          clear hq
          go_enter Tryz.func89, Tryz.ntmps89
          go_wp2
          go_ret
          exact ⟨rfl, HA.out⟩
end Go.Proofs.YtalabahjfmcnbaaGreatDoor
namespace Go.Proofs.YtalabahjfmcnbaaGreatDoor
open Go.RowKit
set_option linter.unusedVariables false

/-- May a step's paths be? -/
def placeB (kind : Int) (p q : ByteArray) : Bool := decide (names nameP p.data.toList ≠ [] ∧ (kind = 5 → names nameP q.data.toList ≠ [] ∧ p ≠ q))
set_option maxHeartbeats 20000000 in
set_option maxRecDepth 100000 in
theorem placed_any (kind : Int) (p q : ByteArray) (at_ : Int) (a1 : Option Addr) (n1 c1 : Nat) (a2 : Option Addr) (n2 c2 : Nat) (w : World) (hp : p.size ≤ 1000000) (hq : q.size ≤ 1000000) (r : Bool) (hr : placeB kind p q = r) :
    Calls Tryz.prog 90 #[.agg #[.int .i64 kind, .string p, .string q, .int .i64 at_, .slice a1 n1 c1, .slice a2 n2 c2]] w fun e w' => e = .returned (.bool r) ∧ Below w.heap.size w w' := by
  have CR := Lib.hid (fun W => pright_any p W hp)
  have CT := Lib.hid (fun W => pright_any q W hq)
  have hal : Below w.heap.size w (w.alloc (.cells #[.int .i64 kind, .string p, .string q, .int .i64 at_, .slice a1 n1 c1, .slice a2 n2 c2] 33)) := (Below.refl _ _).alloc (Nat.le_refl _) _
  have HP : Hid (PAt (w.alloc (.cells #[.int .i64 kind, .string p, .string q, .int .i64 at_, .slice a1 n1 c1, .slice a2 n2 c2] 33)) w.heap.size kind p q at_ a1 n1 c1 a2 n2 c2) := PAt.new_ w kind p q at_ a1 n1 c1 a2 n2 c2
  have HA := Lib.hid hal
  clear hal
  have b0 := HP.out.k0
  have b1 := HP.out.k1
  have b2 := HP.out.k2
  have b3 := HP.out.k3
  have b4 := HP.out.k4
  have b5 := HP.out.k5
  unfold placeB at hr
  clear hp hq
  by_cases hk5 : kind = 5
  · subst hk5
    by_cases hqp : q = p
    · have hs : (q.toList == p.toList) = true := by rw [hqp]; simp
      subst hqp
      simp at hr
      subst hr
      go_enter Tryz.func90, Tryz.ntmps90
      go_wp2
      go_ret
      exact ⟨rfl, HA.out⟩
    · have hs : (q.toList == p.toList) = false := str_ne hqp
      have hpq : ¬ p = q := fun e => hqp e.symm
      by_cases hqn : names nameP q.data.toList = []
      · have CT1 := fun W => CT.out W
        unfold pnames at CT1
        simp only [decide_eq_false (show ¬ (names nameP q.data.toList ≠ []) by simp [hqn])] at CT1
        simp [hqn] at hr
        subst hr
        go_enter Tryz.func90, Tryz.ntmps90
        go_wp2_with fail
        refine (CT1 _).mono ?_
        rintro e w1 ⟨rfl, hb⟩
        have HB1 := Lib.hid hb
        clear hb b0 b1 b2 b3 b4 b5
        have b0 := (HP.out.on HB1.out).k0
        have b1 := (HP.out.on HB1.out).k1
        have b2 := (HP.out.on HB1.out).k2
        have b3 := (HP.out.on HB1.out).k3
        have b4 := (HP.out.on HB1.out).k4
        have b5 := (HP.out.on HB1.out).k5
        go_wp2
        go_ret
        exact ⟨rfl, HA.out.trans (HB1.out.mono HA.out.size)⟩
      · by_cases hpn : names nameP p.data.toList = []
        · have CT1 := fun W => CT.out W
          unfold pnames at CT1
          simp only [decide_eq_true (show (names nameP q.data.toList ≠ []) by simp [hqn])] at CT1
          have CR1 := fun W => CR.out W
          unfold pnames at CR1
          simp only [decide_eq_false (show ¬ (names nameP p.data.toList ≠ []) by simp [hpn])] at CR1
          simp [hpn] at hr
          subst hr
          go_enter Tryz.func90, Tryz.ntmps90
          go_wp2_with fail
          refine (CT1 _).mono ?_
          rintro e w1 ⟨rfl, hb⟩
          have HB1 := Lib.hid hb
          clear hb b0 b1 b2 b3 b4 b5
          have b0 := (HP.out.on HB1.out).k0
          have b1 := (HP.out.on HB1.out).k1
          have b2 := (HP.out.on HB1.out).k2
          have b3 := (HP.out.on HB1.out).k3
          have b4 := (HP.out.on HB1.out).k4
          have b5 := (HP.out.on HB1.out).k5
          go_wp2_with fail
          refine (CR1 _).mono ?_
          rintro e w2 ⟨rfl, hb⟩
          have HB2 := Lib.hid ((HB1.out).trans (hb.mono (HB1.out).size))
          clear hb b0 b1 b2 b3 b4 b5
          have b0 := (HP.out.on HB2.out).k0
          have b1 := (HP.out.on HB2.out).k1
          have b2 := (HP.out.on HB2.out).k2
          have b3 := (HP.out.on HB2.out).k3
          have b4 := (HP.out.on HB2.out).k4
          have b5 := (HP.out.on HB2.out).k5
          go_wp2
          go_ret
          exact ⟨rfl, HA.out.trans (HB2.out.mono HA.out.size)⟩
        · have CT1 := fun W => CT.out W
          unfold pnames at CT1
          simp only [decide_eq_true (show (names nameP q.data.toList ≠ []) by simp [hqn])] at CT1
          have CR1 := fun W => CR.out W
          unfold pnames at CR1
          simp only [decide_eq_true (show (names nameP p.data.toList ≠ []) by simp [hpn])] at CR1
          simp [hpn, hqn, hpq] at hr
          subst hr
          go_enter Tryz.func90, Tryz.ntmps90
          go_wp2_with fail
          refine (CT1 _).mono ?_
          rintro e w1 ⟨rfl, hb⟩
          have HB1 := Lib.hid hb
          clear hb b0 b1 b2 b3 b4 b5
          have b0 := (HP.out.on HB1.out).k0
          have b1 := (HP.out.on HB1.out).k1
          have b2 := (HP.out.on HB1.out).k2
          have b3 := (HP.out.on HB1.out).k3
          have b4 := (HP.out.on HB1.out).k4
          have b5 := (HP.out.on HB1.out).k5
          go_wp2_with fail
          refine (CR1 _).mono ?_
          rintro e w2 ⟨rfl, hb⟩
          have HB2 := Lib.hid ((HB1.out).trans (hb.mono (HB1.out).size))
          clear hb b0 b1 b2 b3 b4 b5
          have b0 := (HP.out.on HB2.out).k0
          have b1 := (HP.out.on HB2.out).k1
          have b2 := (HP.out.on HB2.out).k2
          have b3 := (HP.out.on HB2.out).k3
          have b4 := (HP.out.on HB2.out).k4
          have b5 := (HP.out.on HB2.out).k5
          go_wp2
          go_ret
          exact ⟨rfl, HA.out.trans (HB2.out.mono HA.out.size)⟩
  · have hk52 : (kind == 5) = false := by simpa using hk5
    by_cases hpn : names nameP p.data.toList = []
    · have CR1 := fun W => CR.out W
      unfold pnames at CR1
      simp only [decide_eq_false (show ¬ (names nameP p.data.toList ≠ []) by simp [hpn])] at CR1
      simp [hpn] at hr
      subst hr
      go_enter Tryz.func90, Tryz.ntmps90
      go_wp2_with fail
      refine (CR1 _).mono ?_
      rintro e w1 ⟨rfl, hb⟩
      have HB1 := Lib.hid hb
      clear hb b0 b1 b2 b3 b4 b5
      have b0 := (HP.out.on HB1.out).k0
      have b1 := (HP.out.on HB1.out).k1
      have b2 := (HP.out.on HB1.out).k2
      have b3 := (HP.out.on HB1.out).k3
      have b4 := (HP.out.on HB1.out).k4
      have b5 := (HP.out.on HB1.out).k5
      go_wp2
      go_ret
      exact ⟨rfl, HA.out.trans (HB1.out.mono HA.out.size)⟩
    · have CR1 := fun W => CR.out W
      unfold pnames at CR1
      simp only [decide_eq_true (show (names nameP p.data.toList ≠ []) by simp [hpn])] at CR1
      simp [hpn, hk5] at hr
      subst hr
      go_enter Tryz.func90, Tryz.ntmps90
      go_wp2_with fail
      refine (CR1 _).mono ?_
      rintro e w1 ⟨rfl, hb⟩
      have HB1 := Lib.hid hb
      clear hb b0 b1 b2 b3 b4 b5
      have b0 := (HP.out.on HB1.out).k0
      have b1 := (HP.out.on HB1.out).k1
      have b2 := (HP.out.on HB1.out).k2
      have b3 := (HP.out.on HB1.out).k3
      have b4 := (HP.out.on HB1.out).k4
      have b5 := (HP.out.on HB1.out).k5
      go_wp2
      go_ret
      exact ⟨rfl, HA.out.trans (HB1.out.mono HA.out.size)⟩
set_option maxHeartbeats 20000000 in
set_option maxRecDepth 100000 in
theorem phunks_any (kind : Int) (p q : ByteArray) (at_ : Int) (a1 : Option Addr) (n1 c1 : Nat) (a2 : Option Addr) (n2 c2 : Nat) (w : World) :
    Calls Tryz.prog 133 #[.agg #[.int .i64 kind, .string p, .string q, .int .i64 at_, .slice a1 n1 c1, .slice a2 n2 c2]] w fun e w' => e = .returned (.slice (some ⟨w.heap.size + 1, 0, none⟩) 1 1) ∧ w' = (w.alloc (.cells #[.int .i64 kind, .string p, .string q, .int .i64 at_, .slice a1 n1 c1, .slice a2 n2 c2] 33)).alloc (.cells #[.int .i64 at_, .slice a1 n1 c1, .slice a2 n2 c2] 171) := by
  have hal : Below w.heap.size w (w.alloc (.cells #[.int .i64 kind, .string p, .string q, .int .i64 at_, .slice a1 n1 c1, .slice a2 n2 c2] 33)) := (Below.refl _ _).alloc (Nat.le_refl _) _
  have HP : Hid (PAt (w.alloc (.cells #[.int .i64 kind, .string p, .string q, .int .i64 at_, .slice a1 n1 c1, .slice a2 n2 c2] 33)) w.heap.size kind p q at_ a1 n1 c1 a2 n2 c2) := PAt.new_ w kind p q at_ a1 n1 c1 a2 n2 c2
  have HA := Lib.hid hal
  clear hal
  have b0 := HP.out.k0
  have b1 := HP.out.k1
  have b2 := HP.out.k2
  have b3 := HP.out.k3
  have b4 := HP.out.k4
  have b5 := HP.out.k5
  go_enter Tryz.func133, Tryz.ntmps133
  go_wp2
  go_ret
  exact ⟨rfl, rfl⟩
theorem hks_one {w : World} {G : Nat} {h : Hm} (k : HunkAt w G h) (ok : h.Ok w w.heap.size) : Hks w w.heap.size (some ⟨G, 0, none⟩) [h] :=
  ⟨fun _ => ⟨G, 0, rfl, k.lt, fun j hj => by
    obtain rfl : j = 0 := by simpa using hj
    exact ⟨by simpa using k.c0, by simpa using k.c1, by simpa using k.c2⟩⟩, fun g hg => by
    rw [List.mem_singleton] at hg
    subst hg
    exact ok⟩
/-- May a hunk's place and lines be? -/
def linedB (at_ : Int) (old new : List (List UInt8)) : Bool := decide (0 ≤ at_ ∧ ¬ (old.length = 0 ∧ new.length = 0) ∧ checkN (toBs old) = 0 ∧ checkN (toBs new) = 0)
theorem mayB_one (h : Hm) : mayB [h] = decide (0 ≤ h.at_ ∧ ¬ (h.old.length = 0 ∧ h.new.length = 0)) := by
  unfold mayB
  rw [mayF, mayF, Bool.and_true]
  unfold okAt
  rw [decide_eq_decide]
  constructor
  · rintro ⟨h1, h2, _⟩
    exact ⟨h1, h2⟩
  · rintro ⟨h1, h2⟩
    exact ⟨h1, h2, fun x hx => by cases hx⟩
theorem lcheck_l (A : Option Addr) (ls : List (List UInt8)) (cap : Nat) (w : World) (hs : Strs w w.heap.size A (toBs ls)) (hn : ls.length ≤ 1000000) (hz : ∀ x ∈ ls, x.length ≤ 1000000) (hT : Tabs w) :
    Calls Tryz.prog 54 #[.slice A ls.length cap] w fun e w' => e = .returned (.int .i64 (checkN (toBs ls))) ∧ Below w.heap.size w w' := by
  have h := lcheck_any A (toBs ls) cap w hs (by rw [toBs_len]; omega) (fun s hs => by
    obtain ⟨x, hx, rfl⟩ := List.mem_map.1 hs
    rw [toB_size]
    have := hz x hx
    omega) hT
  rw [toBs_len] at h
  exact h
set_option maxHeartbeats 20000000 in
set_option maxRecDepth 100000 in
theorem lined_any (kind : Int) (p q : ByteArray) (at_ : Int) (a1 : Option Addr) (c1 : Nat) (old : List (List UInt8)) (a2 : Option Addr) (c2 : Nat) (new : List (List UInt8)) (w : World) (ok : Hm.Ok ⟨at_, a1, c1, old, a2, c2, new⟩ w w.heap.size) (m1 : old.length ≤ 100000) (m2 : new.length ≤ 100000) (z1 : ∀ l ∈ old, l.length ≤ 100000) (z2 : ∀ l ∈ new, l.length ≤ 100000) (hT : Tabs w) (r : Bool) (hr : linedB at_ old new = r) :
    Calls Tryz.prog 91 #[.agg #[.int .i64 kind, .string p, .string q, .int .i64 at_, .slice a1 old.length c1, .slice a2 new.length c2]] w fun e w' => e = .returned (.bool r) ∧ Below w.heap.size w w' := by
  have hal : Below w.heap.size w (w.alloc (.cells #[.int .i64 kind, .string p, .string q, .int .i64 at_, .slice a1 old.length c1, .slice a2 new.length c2] 33)) := (Below.refl _ _).alloc (Nat.le_refl _) _
  have HP : Hid (PAt (w.alloc (.cells #[.int .i64 kind, .string p, .string q, .int .i64 at_, .slice a1 old.length c1, .slice a2 new.length c2] 33)) w.heap.size kind p q at_ a1 old.length c1 a2 new.length c2) := PAt.new_ w kind p q at_ a1 old.length c1 a2 new.length c2
  have HA := Lib.hid hal
  clear hal
  have b0 := HP.out.k0
  have b1 := HP.out.k1
  have b2 := HP.out.k2
  have b3 := HP.out.k3
  have b4 := HP.out.k4
  have b5 := HP.out.k5
  have HO := Lib.hid (ok.on HA.out)
  have HT := Lib.hid (Tabs.on hT HA.out)
  have CO := Lib.hid (fun W (hb : Below (w.alloc (.cells #[.int .i64 kind, .string p, .string q, .int .i64 at_, .slice a1 old.length c1, .slice a2 new.length c2] 33)).heap.size (w.alloc (.cells #[.int .i64 kind, .string p, .string q, .int .i64 at_, .slice a1 old.length c1, .slice a2 new.length c2] 33)) W) => lcheck_l a1 old c1 W (HO.out.old.on hb) (by show old.length ≤ _; omega) (fun x hx => by have := z1 x hx; omega) (Tabs.on HT.out hb))
  have CN := Lib.hid (fun W (hb : Below (w.alloc (.cells #[.int .i64 kind, .string p, .string q, .int .i64 at_, .slice a1 old.length c1, .slice a2 new.length c2] 33)).heap.size (w.alloc (.cells #[.int .i64 kind, .string p, .string q, .int .i64 at_, .slice a1 old.length c1, .slice a2 new.length c2] 33)) W) => lcheck_l a2 new c2 W (HO.out.new.on hb) (by show new.length ≤ _; omega) (fun x hx => by have := z2 x hx; omega) (Tabs.on HT.out hb))
  have CH := Lib.hid (fun W => phunks_any kind p q at_ a1 old.length c1 a2 new.length c2 W)
  have CD := Lib.hid (fun W (hb : Below (w.alloc (.cells #[.int .i64 kind, .string p, .string q, .int .i64 at_, .slice a1 old.length c1, .slice a2 new.length c2] 33)).heap.size (w.alloc (.cells #[.int .i64 kind, .string p, .string q, .int .i64 at_, .slice a1 old.length c1, .slice a2 new.length c2] 33)) W) (G : Nat) (hh : HunkAt W G ⟨at_, a1, c1, old, a2, c2, new⟩) er her => check_any (some ⟨G, 0, none⟩) [⟨at_, a1, c1, old, a2, c2, new⟩] 1 W (hks_one hh (HO.out.on hb)) (by simp) ⟨by simp, fun h hh => by rw [List.mem_singleton] at hh; subst hh; exact ⟨by show old.length ≤ _; omega, by show new.length ≤ _; omega⟩⟩ er her)
  unfold linedB at hr
  clear ok hT z1 z2
  obtain ⟨co, hcoe⟩ : ∃ c, checkN (toBs old) = c := ⟨_, rfl⟩
  obtain ⟨cn, hcne⟩ : ∃ c, checkN (toBs new) = c := ⟨_, rfl⟩
  rw [hcoe] at hr CO
  rw [hcne] at hr CN
  clear hcoe hcne
  by_cases hm : 0 ≤ at_ ∧ ¬ (old.length = 0 ∧ new.length = 0)
  · by_cases hco : co = 0
    · subst hco
      by_cases hcn : cn = 0
      · subst hcn
        rw [decide_eq_true ⟨hm.1, hm.2, rfl, rfl⟩] at hr
        subst hr
        go_enter Tryz.func91, Tryz.ntmps91
        go_wp2_with fail
        generalize hwa : w.alloc (.cells #[.int .i64 kind, .string p, .string q, .int .i64 at_, .slice a1 old.length c1, .slice a2 new.length c2] 33) = wa at *
        refine (CH.out wa).mono ?_
        rintro e w1 ⟨rfl, rfl⟩
        have hB1 : Below wa.heap.size wa ((wa.alloc (.cells #[.int .i64 kind, .string p, .string q, .int .i64 at_, .slice a1 old.length c1, .slice a2 new.length c2] 33)).alloc (.cells #[.int .i64 at_, .slice a1 old.length c1, .slice a2 new.length c2] 171)) := ((Below.refl _ _).alloc (Nat.le_refl _) _).alloc (by simp) _
        have HH1 : HunkAt ((wa.alloc (.cells #[.int .i64 kind, .string p, .string q, .int .i64 at_, .slice a1 old.length c1, .slice a2 new.length c2] 33)).alloc (.cells #[.int .i64 at_, .slice a1 old.length c1, .slice a2 new.length c2] 171)) (wa.heap.size + 1) ⟨at_, a1, c1, old, a2, c2, new⟩ := by
          have h := HunkAt.new_ (wa.alloc (.cells #[.int .i64 kind, .string p, .string q, .int .i64 at_, .slice a1 old.length c1, .slice a2 new.length c2] 33)) ⟨at_, a1, c1, old, a2, c2, new⟩
          rw [World.size_alloc] at h
          exact h
        have CD1 := Lib.hid (CD.out _ hB1 _ HH1 _ rfl)
        rw [mayB_one] at CD1
        have HB1 := Lib.hid hB1
        clear hB1 HH1
        simp only [decide_eq_true hm, if_true] at CD1
        clear hm
        have b4 := (HP.out.on HB1.out).k4
        have b5 := (HP.out.on HB1.out).k5
        go_wp2_with fail
        refine (CD1.out).mono ?_
        rintro e w2 ⟨rfl, hb⟩
        have HB2 := Lib.hid ((HB1.out).trans (hb.mono (HB1.out).size))
        clear hb b0 b1 b2 b3 b4 b5
        have b0 := (HP.out.on HB2.out).k0
        have b1 := (HP.out.on HB2.out).k1
        have b2 := (HP.out.on HB2.out).k2
        have b3 := (HP.out.on HB2.out).k3
        have b4 := (HP.out.on HB2.out).k4
        have b5 := (HP.out.on HB2.out).k5
        go_wp2_with fail
        refine (CO.out _ HB2.out).mono ?_
        rintro e w3 ⟨rfl, hb⟩
        have HB3 := Lib.hid ((HB2.out).trans (hb.mono (HB2.out).size))
        clear hb b0 b1 b2 b3 b4 b5
        have b0 := (HP.out.on HB3.out).k0
        have b1 := (HP.out.on HB3.out).k1
        have b2 := (HP.out.on HB3.out).k2
        have b3 := (HP.out.on HB3.out).k3
        have b4 := (HP.out.on HB3.out).k4
        have b5 := (HP.out.on HB3.out).k5
        go_wp2_with fail
        refine (CN.out _ HB3.out).mono ?_
        rintro e w4 ⟨rfl, hb⟩
        have HB4 := Lib.hid ((HB3.out).trans (hb.mono (HB3.out).size))
        clear hb b0 b1 b2 b3 b4 b5
        have b0 := (HP.out.on HB4.out).k0
        have b1 := (HP.out.on HB4.out).k1
        have b2 := (HP.out.on HB4.out).k2
        have b3 := (HP.out.on HB4.out).k3
        have b4 := (HP.out.on HB4.out).k4
        have b5 := (HP.out.on HB4.out).k5
        go_wp2
        go_ret
        exact ⟨rfl, HA.out.trans (HB4.out.mono HA.out.size)⟩
      · have hcb : (cn == 0) = false := by simpa using hcn
        rw [decide_eq_false (fun h => hcn h.2.2.2)] at hr
        subst hr
        go_enter Tryz.func91, Tryz.ntmps91
        go_wp2_with fail
        generalize hwa : w.alloc (.cells #[.int .i64 kind, .string p, .string q, .int .i64 at_, .slice a1 old.length c1, .slice a2 new.length c2] 33) = wa at *
        refine (CH.out wa).mono ?_
        rintro e w1 ⟨rfl, rfl⟩
        have hB1 : Below wa.heap.size wa ((wa.alloc (.cells #[.int .i64 kind, .string p, .string q, .int .i64 at_, .slice a1 old.length c1, .slice a2 new.length c2] 33)).alloc (.cells #[.int .i64 at_, .slice a1 old.length c1, .slice a2 new.length c2] 171)) := ((Below.refl _ _).alloc (Nat.le_refl _) _).alloc (by simp) _
        have HH1 : HunkAt ((wa.alloc (.cells #[.int .i64 kind, .string p, .string q, .int .i64 at_, .slice a1 old.length c1, .slice a2 new.length c2] 33)).alloc (.cells #[.int .i64 at_, .slice a1 old.length c1, .slice a2 new.length c2] 171)) (wa.heap.size + 1) ⟨at_, a1, c1, old, a2, c2, new⟩ := by
          have h := HunkAt.new_ (wa.alloc (.cells #[.int .i64 kind, .string p, .string q, .int .i64 at_, .slice a1 old.length c1, .slice a2 new.length c2] 33)) ⟨at_, a1, c1, old, a2, c2, new⟩
          rw [World.size_alloc] at h
          exact h
        have CD1 := Lib.hid (CD.out _ hB1 _ HH1 _ rfl)
        rw [mayB_one] at CD1
        have HB1 := Lib.hid hB1
        clear hB1 HH1
        simp only [decide_eq_true hm, if_true] at CD1
        clear hm
        have b4 := (HP.out.on HB1.out).k4
        have b5 := (HP.out.on HB1.out).k5
        go_wp2_with fail
        refine (CD1.out).mono ?_
        rintro e w2 ⟨rfl, hb⟩
        have HB2 := Lib.hid ((HB1.out).trans (hb.mono (HB1.out).size))
        clear hb b0 b1 b2 b3 b4 b5
        have b0 := (HP.out.on HB2.out).k0
        have b1 := (HP.out.on HB2.out).k1
        have b2 := (HP.out.on HB2.out).k2
        have b3 := (HP.out.on HB2.out).k3
        have b4 := (HP.out.on HB2.out).k4
        have b5 := (HP.out.on HB2.out).k5
        go_wp2_with fail
        refine (CO.out _ HB2.out).mono ?_
        rintro e w3 ⟨rfl, hb⟩
        have HB3 := Lib.hid ((HB2.out).trans (hb.mono (HB2.out).size))
        clear hb b0 b1 b2 b3 b4 b5
        have b0 := (HP.out.on HB3.out).k0
        have b1 := (HP.out.on HB3.out).k1
        have b2 := (HP.out.on HB3.out).k2
        have b3 := (HP.out.on HB3.out).k3
        have b4 := (HP.out.on HB3.out).k4
        have b5 := (HP.out.on HB3.out).k5
        go_wp2_with fail
        refine (CN.out _ HB3.out).mono ?_
        rintro e w4 ⟨rfl, hb⟩
        have HB4 := Lib.hid ((HB3.out).trans (hb.mono (HB3.out).size))
        clear hb b0 b1 b2 b3 b4 b5
        have b0 := (HP.out.on HB4.out).k0
        have b1 := (HP.out.on HB4.out).k1
        have b2 := (HP.out.on HB4.out).k2
        have b3 := (HP.out.on HB4.out).k3
        have b4 := (HP.out.on HB4.out).k4
        have b5 := (HP.out.on HB4.out).k5
        go_wp2
        go_ret
        exact ⟨rfl, HA.out.trans (HB4.out.mono HA.out.size)⟩
    · have hcb : (co == 0) = false := by simpa using hco
      rw [decide_eq_false (fun h => hco h.2.2.1)] at hr
      subst hr
      go_enter Tryz.func91, Tryz.ntmps91
      go_wp2_with fail
      generalize hwa : w.alloc (.cells #[.int .i64 kind, .string p, .string q, .int .i64 at_, .slice a1 old.length c1, .slice a2 new.length c2] 33) = wa at *
      refine (CH.out wa).mono ?_
      rintro e w1 ⟨rfl, rfl⟩
      have hB1 : Below wa.heap.size wa ((wa.alloc (.cells #[.int .i64 kind, .string p, .string q, .int .i64 at_, .slice a1 old.length c1, .slice a2 new.length c2] 33)).alloc (.cells #[.int .i64 at_, .slice a1 old.length c1, .slice a2 new.length c2] 171)) := ((Below.refl _ _).alloc (Nat.le_refl _) _).alloc (by simp) _
      have HH1 : HunkAt ((wa.alloc (.cells #[.int .i64 kind, .string p, .string q, .int .i64 at_, .slice a1 old.length c1, .slice a2 new.length c2] 33)).alloc (.cells #[.int .i64 at_, .slice a1 old.length c1, .slice a2 new.length c2] 171)) (wa.heap.size + 1) ⟨at_, a1, c1, old, a2, c2, new⟩ := by
        have h := HunkAt.new_ (wa.alloc (.cells #[.int .i64 kind, .string p, .string q, .int .i64 at_, .slice a1 old.length c1, .slice a2 new.length c2] 33)) ⟨at_, a1, c1, old, a2, c2, new⟩
        rw [World.size_alloc] at h
        exact h
      have CD1 := Lib.hid (CD.out _ hB1 _ HH1 _ rfl)
      rw [mayB_one] at CD1
      have HB1 := Lib.hid hB1
      clear hB1 HH1
      simp only [decide_eq_true hm, if_true] at CD1
      clear hm
      have b4 := (HP.out.on HB1.out).k4
      have b5 := (HP.out.on HB1.out).k5
      go_wp2_with fail
      refine (CD1.out).mono ?_
      rintro e w2 ⟨rfl, hb⟩
      have HB2 := Lib.hid ((HB1.out).trans (hb.mono (HB1.out).size))
      clear hb b0 b1 b2 b3 b4 b5
      have b0 := (HP.out.on HB2.out).k0
      have b1 := (HP.out.on HB2.out).k1
      have b2 := (HP.out.on HB2.out).k2
      have b3 := (HP.out.on HB2.out).k3
      have b4 := (HP.out.on HB2.out).k4
      have b5 := (HP.out.on HB2.out).k5
      go_wp2_with fail
      refine (CO.out _ HB2.out).mono ?_
      rintro e w3 ⟨rfl, hb⟩
      have HB3 := Lib.hid ((HB2.out).trans (hb.mono (HB2.out).size))
      clear hb b0 b1 b2 b3 b4 b5
      have b0 := (HP.out.on HB3.out).k0
      have b1 := (HP.out.on HB3.out).k1
      have b2 := (HP.out.on HB3.out).k2
      have b3 := (HP.out.on HB3.out).k3
      have b4 := (HP.out.on HB3.out).k4
      have b5 := (HP.out.on HB3.out).k5
      go_wp2
      go_ret
      exact ⟨rfl, HA.out.trans (HB3.out.mono HA.out.size)⟩
  · rw [decide_eq_false (fun h => hm ⟨h.1, h.2.1⟩)] at hr
    subst hr
    go_enter Tryz.func91, Tryz.ntmps91
    go_wp2_with fail
    generalize hwa : w.alloc (.cells #[.int .i64 kind, .string p, .string q, .int .i64 at_, .slice a1 old.length c1, .slice a2 new.length c2] 33) = wa at *
    refine (CH.out wa).mono ?_
    rintro e w1 ⟨rfl, rfl⟩
    have hB1 : Below wa.heap.size wa ((wa.alloc (.cells #[.int .i64 kind, .string p, .string q, .int .i64 at_, .slice a1 old.length c1, .slice a2 new.length c2] 33)).alloc (.cells #[.int .i64 at_, .slice a1 old.length c1, .slice a2 new.length c2] 171)) := ((Below.refl _ _).alloc (Nat.le_refl _) _).alloc (by simp) _
    have HH1 : HunkAt ((wa.alloc (.cells #[.int .i64 kind, .string p, .string q, .int .i64 at_, .slice a1 old.length c1, .slice a2 new.length c2] 33)).alloc (.cells #[.int .i64 at_, .slice a1 old.length c1, .slice a2 new.length c2] 171)) (wa.heap.size + 1) ⟨at_, a1, c1, old, a2, c2, new⟩ := by
      have h := HunkAt.new_ (wa.alloc (.cells #[.int .i64 kind, .string p, .string q, .int .i64 at_, .slice a1 old.length c1, .slice a2 new.length c2] 33)) ⟨at_, a1, c1, old, a2, c2, new⟩
      rw [World.size_alloc] at h
      exact h
    have CD1 := Lib.hid (CD.out _ hB1 _ HH1 _ rfl)
    rw [mayB_one] at CD1
    have HB1 := Lib.hid hB1
    clear hB1 HH1
    simp only [decide_eq_false hm, Bool.false_eq_true, if_false] at CD1
    clear hm
    have b4 := (HP.out.on HB1.out).k4
    have b5 := (HP.out.on HB1.out).k5
    go_wp2_with fail
    refine (CD1.out).mono ?_
    rintro e w2 ⟨rfl, hb⟩
    have HB2 := Lib.hid ((HB1.out).trans (hb.mono (HB1.out).size))
    clear hb b0 b1 b2 b3 b4 b5
    have b0 := (HP.out.on HB2.out).k0
    have b1 := (HP.out.on HB2.out).k1
    have b2 := (HP.out.on HB2.out).k2
    have b3 := (HP.out.on HB2.out).k3
    have b4 := (HP.out.on HB2.out).k4
    have b5 := (HP.out.on HB2.out).k5
    go_wp2
    go_ret
    exact ⟨rfl, HA.out.trans (HB2.out.mono HA.out.size)⟩
end Go.Proofs.YtalabahjfmcnbaaGreatDoor
