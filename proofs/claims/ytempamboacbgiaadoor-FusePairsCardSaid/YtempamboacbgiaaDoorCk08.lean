/- Package prim's placed, hunks, lined. -/
import Derived.Test.YtempamboacbgiaaDoorCk07
namespace Go.Proofs.YtempamboacbgiaaDoor
open Go.RowKit
set_option linter.unusedVariables false

/-- May a step's paths be? -/
def placeB (kind : Int) (p q : ByteArray) : Bool := decide (names nameP p.data.toList ≠ [] ∧ (kind = 5 → names nameP q.data.toList ≠ [] ∧ p ≠ q))
set_option maxHeartbeats 20000000 in
set_option maxRecDepth 100000 in
theorem placed_any (kind : Int) (p q : ByteArray) (at_ : Int) (a1 : Option Addr) (n1 c1 : Nat) (a2 : Option Addr) (n2 c2 : Nat) (w : World) (hp : p.size ≤ 1000000) (hq : q.size ≤ 1000000) (r : Bool) (hr : placeB kind p q = r) :
    Calls Tryd.prog 41 #[.agg #[.int .i64 kind, .string p, .string q, .int .i64 at_, .slice a1 n1 c1, .slice a2 n2 c2]] w fun e w' => e = .returned (.bool r) ∧ Below w.heap.size w w' := by
  have CR := Lib.hid (fun W => pright_any p W hp)
  have CT := Lib.hid (fun W => pright_any q W hq)
  have hal : Below w.heap.size w (w.alloc (.cells #[.int .i64 kind, .string p, .string q, .int .i64 at_, .slice a1 n1 c1, .slice a2 n2 c2] 24)) := (Below.refl _ _).alloc (Nat.le_refl _) _
  have HP : Hid (PAt (w.alloc (.cells #[.int .i64 kind, .string p, .string q, .int .i64 at_, .slice a1 n1 c1, .slice a2 n2 c2] 24)) w.heap.size kind p q at_ a1 n1 c1 a2 n2 c2) := PAt.new_ w kind p q at_ a1 n1 c1 a2 n2 c2
  have HA := Lib.hid hal
  clear hal
  have b0 := HP.out.k0
  have b1 := HP.out.k1
  have b2 := HP.out.k2
  have b3 := HP.out.k3
  have b4 := HP.out.k4
  have b5 := HP.out.k5
  unfold placeB at hr
  clear hp hq
  by_cases hk5 : kind = 5
  · subst hk5
    by_cases hqp : q = p
    · have hs : (q.toList == p.toList) = true := by rw [hqp]; simp
      subst hqp
      simp at hr
      subst hr
      go_enter Tryd.func41, Tryd.ntmps41
      go_wp2
      go_ret
      exact ⟨rfl, HA.out⟩
    · have hs : (q.toList == p.toList) = false := str_ne hqp
      have hpq : ¬ p = q := fun e => hqp e.symm
      by_cases hqn : names nameP q.data.toList = []
      · have CT1 := fun W => CT.out W
        unfold pnames at CT1
        simp only [decide_eq_false (show ¬ (names nameP q.data.toList ≠ []) by simp [hqn])] at CT1
        simp [hqn] at hr
        subst hr
        go_enter Tryd.func41, Tryd.ntmps41
        go_wp2_with fail
        refine (CT1 _).mono ?_
        rintro e w1 ⟨rfl, hb⟩
        have HB1 := Lib.hid hb
        clear hb b0 b1 b2 b3 b4 b5
        have b0 := (HP.out.on HB1.out).k0
        have b1 := (HP.out.on HB1.out).k1
        have b2 := (HP.out.on HB1.out).k2
        have b3 := (HP.out.on HB1.out).k3
        have b4 := (HP.out.on HB1.out).k4
        have b5 := (HP.out.on HB1.out).k5
        go_wp2
        go_ret
        exact ⟨rfl, HA.out.trans (HB1.out.mono HA.out.size)⟩
      · by_cases hpn : names nameP p.data.toList = []
        · have CT1 := fun W => CT.out W
          unfold pnames at CT1
          simp only [decide_eq_true (show (names nameP q.data.toList ≠ []) by simp [hqn])] at CT1
          have CR1 := fun W => CR.out W
          unfold pnames at CR1
          simp only [decide_eq_false (show ¬ (names nameP p.data.toList ≠ []) by simp [hpn])] at CR1
          simp [hpn] at hr
          subst hr
          go_enter Tryd.func41, Tryd.ntmps41
          go_wp2_with fail
          refine (CT1 _).mono ?_
          rintro e w1 ⟨rfl, hb⟩
          have HB1 := Lib.hid hb
          clear hb b0 b1 b2 b3 b4 b5
          have b0 := (HP.out.on HB1.out).k0
          have b1 := (HP.out.on HB1.out).k1
          have b2 := (HP.out.on HB1.out).k2
          have b3 := (HP.out.on HB1.out).k3
          have b4 := (HP.out.on HB1.out).k4
          have b5 := (HP.out.on HB1.out).k5
          go_wp2_with fail
          refine (CR1 _).mono ?_
          rintro e w2 ⟨rfl, hb⟩
          have HB2 := Lib.hid ((HB1.out).trans (hb.mono (HB1.out).size))
          clear hb b0 b1 b2 b3 b4 b5
          have b0 := (HP.out.on HB2.out).k0
          have b1 := (HP.out.on HB2.out).k1
          have b2 := (HP.out.on HB2.out).k2
          have b3 := (HP.out.on HB2.out).k3
          have b4 := (HP.out.on HB2.out).k4
          have b5 := (HP.out.on HB2.out).k5
          go_wp2
          go_ret
          exact ⟨rfl, HA.out.trans (HB2.out.mono HA.out.size)⟩
        · have CT1 := fun W => CT.out W
          unfold pnames at CT1
          simp only [decide_eq_true (show (names nameP q.data.toList ≠ []) by simp [hqn])] at CT1
          have CR1 := fun W => CR.out W
          unfold pnames at CR1
          simp only [decide_eq_true (show (names nameP p.data.toList ≠ []) by simp [hpn])] at CR1
          simp [hpn, hqn, hpq] at hr
          subst hr
          go_enter Tryd.func41, Tryd.ntmps41
          go_wp2_with fail
          refine (CT1 _).mono ?_
          rintro e w1 ⟨rfl, hb⟩
          have HB1 := Lib.hid hb
          clear hb b0 b1 b2 b3 b4 b5
          have b0 := (HP.out.on HB1.out).k0
          have b1 := (HP.out.on HB1.out).k1
          have b2 := (HP.out.on HB1.out).k2
          have b3 := (HP.out.on HB1.out).k3
          have b4 := (HP.out.on HB1.out).k4
          have b5 := (HP.out.on HB1.out).k5
          go_wp2_with fail
          refine (CR1 _).mono ?_
          rintro e w2 ⟨rfl, hb⟩
          have HB2 := Lib.hid ((HB1.out).trans (hb.mono (HB1.out).size))
          clear hb b0 b1 b2 b3 b4 b5
          have b0 := (HP.out.on HB2.out).k0
          have b1 := (HP.out.on HB2.out).k1
          have b2 := (HP.out.on HB2.out).k2
          have b3 := (HP.out.on HB2.out).k3
          have b4 := (HP.out.on HB2.out).k4
          have b5 := (HP.out.on HB2.out).k5
          go_wp2
          go_ret
          exact ⟨rfl, HA.out.trans (HB2.out.mono HA.out.size)⟩
  · have hk52 : (kind == 5) = false := by simpa using hk5
    by_cases hpn : names nameP p.data.toList = []
    · have CR1 := fun W => CR.out W
      unfold pnames at CR1
      simp only [decide_eq_false (show ¬ (names nameP p.data.toList ≠ []) by simp [hpn])] at CR1
      simp [hpn] at hr
      subst hr
      go_enter Tryd.func41, Tryd.ntmps41
      go_wp2_with fail
      refine (CR1 _).mono ?_
      rintro e w1 ⟨rfl, hb⟩
      have HB1 := Lib.hid hb
      clear hb b0 b1 b2 b3 b4 b5
      have b0 := (HP.out.on HB1.out).k0
      have b1 := (HP.out.on HB1.out).k1
      have b2 := (HP.out.on HB1.out).k2
      have b3 := (HP.out.on HB1.out).k3
      have b4 := (HP.out.on HB1.out).k4
      have b5 := (HP.out.on HB1.out).k5
      go_wp2
      go_ret
      exact ⟨rfl, HA.out.trans (HB1.out.mono HA.out.size)⟩
    · have CR1 := fun W => CR.out W
      unfold pnames at CR1
      simp only [decide_eq_true (show (names nameP p.data.toList ≠ []) by simp [hpn])] at CR1
      simp [hpn, hk5] at hr
      subst hr
      go_enter Tryd.func41, Tryd.ntmps41
      go_wp2_with fail
      refine (CR1 _).mono ?_
      rintro e w1 ⟨rfl, hb⟩
      have HB1 := Lib.hid hb
      clear hb b0 b1 b2 b3 b4 b5
      have b0 := (HP.out.on HB1.out).k0
      have b1 := (HP.out.on HB1.out).k1
      have b2 := (HP.out.on HB1.out).k2
      have b3 := (HP.out.on HB1.out).k3
      have b4 := (HP.out.on HB1.out).k4
      have b5 := (HP.out.on HB1.out).k5
      go_wp2
      go_ret
      exact ⟨rfl, HA.out.trans (HB1.out.mono HA.out.size)⟩
set_option maxHeartbeats 20000000 in
set_option maxRecDepth 100000 in
theorem phunks_any (kind : Int) (p q : ByteArray) (at_ : Int) (a1 : Option Addr) (n1 c1 : Nat) (a2 : Option Addr) (n2 c2 : Nat) (w : World) :
    Calls Tryd.prog 51 #[.agg #[.int .i64 kind, .string p, .string q, .int .i64 at_, .slice a1 n1 c1, .slice a2 n2 c2]] w fun e w' => e = .returned (.slice (some ⟨w.heap.size + 1, 0, none⟩) 1 1) ∧ w' = (w.alloc (.cells #[.int .i64 kind, .string p, .string q, .int .i64 at_, .slice a1 n1 c1, .slice a2 n2 c2] 24)).alloc (.cells #[.int .i64 at_, .slice a1 n1 c1, .slice a2 n2 c2] 44) := by
  have hal : Below w.heap.size w (w.alloc (.cells #[.int .i64 kind, .string p, .string q, .int .i64 at_, .slice a1 n1 c1, .slice a2 n2 c2] 24)) := (Below.refl _ _).alloc (Nat.le_refl _) _
  have HP : Hid (PAt (w.alloc (.cells #[.int .i64 kind, .string p, .string q, .int .i64 at_, .slice a1 n1 c1, .slice a2 n2 c2] 24)) w.heap.size kind p q at_ a1 n1 c1 a2 n2 c2) := PAt.new_ w kind p q at_ a1 n1 c1 a2 n2 c2
  have HA := Lib.hid hal
  clear hal
  have b0 := HP.out.k0
  have b1 := HP.out.k1
  have b2 := HP.out.k2
  have b3 := HP.out.k3
  have b4 := HP.out.k4
  have b5 := HP.out.k5
  go_enter Tryd.func51, Tryd.ntmps51
  go_wp2
  go_ret
  exact ⟨rfl, rfl⟩
theorem hks_one {w : World} {G : Nat} {h : Hm} (k : HunkAt w G h) (ok : h.Ok w w.heap.size) : Hks w w.heap.size (some ⟨G, 0, none⟩) [h] :=
  ⟨fun _ => ⟨G, 0, rfl, k.lt, fun j hj => by
    obtain rfl : j = 0 := by simpa using hj
    exact ⟨by simpa using k.c0, by simpa using k.c1, by simpa using k.c2⟩⟩, fun g hg => by
    rw [List.mem_singleton] at hg
    subst hg
    exact ok⟩
/-- May a hunk's place and lines be? -/
def linedB (at_ : Int) (old new : List (List UInt8)) : Bool := decide (0 ≤ at_ ∧ ¬ (old.length = 0 ∧ new.length = 0) ∧ checkN (toBs old) = 0 ∧ checkN (toBs new) = 0)
theorem mayB_one (h : Hm) : mayB [h] = decide (0 ≤ h.at_ ∧ ¬ (h.old.length = 0 ∧ h.new.length = 0)) := by
  unfold mayB
  rw [mayF, mayF, Bool.and_true]
  unfold okAt
  rw [decide_eq_decide]
  constructor
  · rintro ⟨h1, h2, _⟩
    exact ⟨h1, h2⟩
  · rintro ⟨h1, h2⟩
    exact ⟨h1, h2, fun x hx => by cases hx⟩
theorem lcheck_l (A : Option Addr) (ls : List (List UInt8)) (cap : Nat) (w : World) (hs : Strs w w.heap.size A (toBs ls)) (hn : ls.length ≤ 1000000) (hz : ∀ x ∈ ls, x.length ≤ 1000000) (hT : Tabs w) :
    Calls Tryd.prog 52 #[.slice A ls.length cap] w fun e w' => e = .returned (.int .i64 (checkN (toBs ls))) ∧ Below w.heap.size w w' := by
  have h := lcheck_any A (toBs ls) cap w hs (by rw [toBs_len]; omega) (fun s hs => by
    obtain ⟨x, hx, rfl⟩ := List.mem_map.1 hs
    rw [toB_size]
    have := hz x hx
    omega) hT
  rw [toBs_len] at h
  exact h
set_option maxHeartbeats 20000000 in
set_option maxRecDepth 100000 in
theorem lined_any (kind : Int) (p q : ByteArray) (at_ : Int) (a1 : Option Addr) (c1 : Nat) (old : List (List UInt8)) (a2 : Option Addr) (c2 : Nat) (new : List (List UInt8)) (w : World) (ok : Hm.Ok ⟨at_, a1, c1, old, a2, c2, new⟩ w w.heap.size) (m1 : old.length ≤ 100000) (m2 : new.length ≤ 100000) (z1 : ∀ l ∈ old, l.length ≤ 100000) (z2 : ∀ l ∈ new, l.length ≤ 100000) (hT : Tabs w) (r : Bool) (hr : linedB at_ old new = r) :
    Calls Tryd.prog 42 #[.agg #[.int .i64 kind, .string p, .string q, .int .i64 at_, .slice a1 old.length c1, .slice a2 new.length c2]] w fun e w' => e = .returned (.bool r) ∧ Below w.heap.size w w' := by
  have hal : Below w.heap.size w (w.alloc (.cells #[.int .i64 kind, .string p, .string q, .int .i64 at_, .slice a1 old.length c1, .slice a2 new.length c2] 24)) := (Below.refl _ _).alloc (Nat.le_refl _) _
  have HP : Hid (PAt (w.alloc (.cells #[.int .i64 kind, .string p, .string q, .int .i64 at_, .slice a1 old.length c1, .slice a2 new.length c2] 24)) w.heap.size kind p q at_ a1 old.length c1 a2 new.length c2) := PAt.new_ w kind p q at_ a1 old.length c1 a2 new.length c2
  have HA := Lib.hid hal
  clear hal
  have b0 := HP.out.k0
  have b1 := HP.out.k1
  have b2 := HP.out.k2
  have b3 := HP.out.k3
  have b4 := HP.out.k4
  have b5 := HP.out.k5
  have HO := Lib.hid (ok.on HA.out)
  have HT := Lib.hid (Tabs.on hT HA.out)
  have CO := Lib.hid (fun W (hb : Below (w.alloc (.cells #[.int .i64 kind, .string p, .string q, .int .i64 at_, .slice a1 old.length c1, .slice a2 new.length c2] 24)).heap.size (w.alloc (.cells #[.int .i64 kind, .string p, .string q, .int .i64 at_, .slice a1 old.length c1, .slice a2 new.length c2] 24)) W) => lcheck_l a1 old c1 W (HO.out.old.on hb) (by show old.length ≤ _; omega) (fun x hx => by have := z1 x hx; omega) (Tabs.on HT.out hb))
  have CN := Lib.hid (fun W (hb : Below (w.alloc (.cells #[.int .i64 kind, .string p, .string q, .int .i64 at_, .slice a1 old.length c1, .slice a2 new.length c2] 24)).heap.size (w.alloc (.cells #[.int .i64 kind, .string p, .string q, .int .i64 at_, .slice a1 old.length c1, .slice a2 new.length c2] 24)) W) => lcheck_l a2 new c2 W (HO.out.new.on hb) (by show new.length ≤ _; omega) (fun x hx => by have := z2 x hx; omega) (Tabs.on HT.out hb))
  have CH := Lib.hid (fun W => phunks_any kind p q at_ a1 old.length c1 a2 new.length c2 W)
  have CD := Lib.hid (fun W (hb : Below (w.alloc (.cells #[.int .i64 kind, .string p, .string q, .int .i64 at_, .slice a1 old.length c1, .slice a2 new.length c2] 24)).heap.size (w.alloc (.cells #[.int .i64 kind, .string p, .string q, .int .i64 at_, .slice a1 old.length c1, .slice a2 new.length c2] 24)) W) (G : Nat) (hh : HunkAt W G ⟨at_, a1, c1, old, a2, c2, new⟩) er her => check_any (some ⟨G, 0, none⟩) [⟨at_, a1, c1, old, a2, c2, new⟩] 1 W (hks_one hh (HO.out.on hb)) (by simp) ⟨by simp, fun h hh => by rw [List.mem_singleton] at hh; subst hh; exact ⟨by show old.length ≤ _; omega, by show new.length ≤ _; omega⟩⟩ er her)
  unfold linedB at hr
  clear ok hT z1 z2
  obtain ⟨co, hcoe⟩ : ∃ c, checkN (toBs old) = c := ⟨_, rfl⟩
  obtain ⟨cn, hcne⟩ : ∃ c, checkN (toBs new) = c := ⟨_, rfl⟩
  rw [hcoe] at hr CO
  rw [hcne] at hr CN
  clear hcoe hcne
  by_cases hm : 0 ≤ at_ ∧ ¬ (old.length = 0 ∧ new.length = 0)
  · by_cases hco : co = 0
    · subst hco
      by_cases hcn : cn = 0
      · subst hcn
        rw [decide_eq_true ⟨hm.1, hm.2, rfl, rfl⟩] at hr
        subst hr
        go_enter Tryd.func42, Tryd.ntmps42
        go_wp2_with fail
        generalize hwa : w.alloc (.cells #[.int .i64 kind, .string p, .string q, .int .i64 at_, .slice a1 old.length c1, .slice a2 new.length c2] 24) = wa at *
        refine (CH.out wa).mono ?_
        rintro e w1 ⟨rfl, rfl⟩
        have hB1 : Below wa.heap.size wa ((wa.alloc (.cells #[.int .i64 kind, .string p, .string q, .int .i64 at_, .slice a1 old.length c1, .slice a2 new.length c2] 24)).alloc (.cells #[.int .i64 at_, .slice a1 old.length c1, .slice a2 new.length c2] 44)) := ((Below.refl _ _).alloc (Nat.le_refl _) _).alloc (by simp) _
        have HH1 : HunkAt ((wa.alloc (.cells #[.int .i64 kind, .string p, .string q, .int .i64 at_, .slice a1 old.length c1, .slice a2 new.length c2] 24)).alloc (.cells #[.int .i64 at_, .slice a1 old.length c1, .slice a2 new.length c2] 44)) (wa.heap.size + 1) ⟨at_, a1, c1, old, a2, c2, new⟩ := by
          have h := HunkAt.new_ (wa.alloc (.cells #[.int .i64 kind, .string p, .string q, .int .i64 at_, .slice a1 old.length c1, .slice a2 new.length c2] 24)) ⟨at_, a1, c1, old, a2, c2, new⟩
          rw [World.size_alloc] at h
          exact h
        have CD1 := Lib.hid (CD.out _ hB1 _ HH1 _ rfl)
        rw [mayB_one] at CD1
        have HB1 := Lib.hid hB1
        clear hB1 HH1
        simp only [decide_eq_true hm, if_true] at CD1
        clear hm
        have b4 := (HP.out.on HB1.out).k4
        have b5 := (HP.out.on HB1.out).k5
        go_wp2_with fail
        refine (CD1.out).mono ?_
        rintro e w2 ⟨rfl, hb⟩
        have HB2 := Lib.hid ((HB1.out).trans (hb.mono (HB1.out).size))
        clear hb b0 b1 b2 b3 b4 b5
        have b0 := (HP.out.on HB2.out).k0
        have b1 := (HP.out.on HB2.out).k1
        have b2 := (HP.out.on HB2.out).k2
        have b3 := (HP.out.on HB2.out).k3
        have b4 := (HP.out.on HB2.out).k4
        have b5 := (HP.out.on HB2.out).k5
        go_wp2_with fail
        refine (CO.out _ HB2.out).mono ?_
        rintro e w3 ⟨rfl, hb⟩
        have HB3 := Lib.hid ((HB2.out).trans (hb.mono (HB2.out).size))
        clear hb b0 b1 b2 b3 b4 b5
        have b0 := (HP.out.on HB3.out).k0
        have b1 := (HP.out.on HB3.out).k1
        have b2 := (HP.out.on HB3.out).k2
        have b3 := (HP.out.on HB3.out).k3
        have b4 := (HP.out.on HB3.out).k4
        have b5 := (HP.out.on HB3.out).k5
        go_wp2_with fail
        refine (CN.out _ HB3.out).mono ?_
        rintro e w4 ⟨rfl, hb⟩
        have HB4 := Lib.hid ((HB3.out).trans (hb.mono (HB3.out).size))
        clear hb b0 b1 b2 b3 b4 b5
        have b0 := (HP.out.on HB4.out).k0
        have b1 := (HP.out.on HB4.out).k1
        have b2 := (HP.out.on HB4.out).k2
        have b3 := (HP.out.on HB4.out).k3
        have b4 := (HP.out.on HB4.out).k4
        have b5 := (HP.out.on HB4.out).k5
        go_wp2
        go_ret
        exact ⟨rfl, HA.out.trans (HB4.out.mono HA.out.size)⟩
      · have hcb : (cn == 0) = false := by simpa using hcn
        rw [decide_eq_false (fun h => hcn h.2.2.2)] at hr
        subst hr
        go_enter Tryd.func42, Tryd.ntmps42
        go_wp2_with fail
        generalize hwa : w.alloc (.cells #[.int .i64 kind, .string p, .string q, .int .i64 at_, .slice a1 old.length c1, .slice a2 new.length c2] 24) = wa at *
        refine (CH.out wa).mono ?_
        rintro e w1 ⟨rfl, rfl⟩
        have hB1 : Below wa.heap.size wa ((wa.alloc (.cells #[.int .i64 kind, .string p, .string q, .int .i64 at_, .slice a1 old.length c1, .slice a2 new.length c2] 24)).alloc (.cells #[.int .i64 at_, .slice a1 old.length c1, .slice a2 new.length c2] 44)) := ((Below.refl _ _).alloc (Nat.le_refl _) _).alloc (by simp) _
        have HH1 : HunkAt ((wa.alloc (.cells #[.int .i64 kind, .string p, .string q, .int .i64 at_, .slice a1 old.length c1, .slice a2 new.length c2] 24)).alloc (.cells #[.int .i64 at_, .slice a1 old.length c1, .slice a2 new.length c2] 44)) (wa.heap.size + 1) ⟨at_, a1, c1, old, a2, c2, new⟩ := by
          have h := HunkAt.new_ (wa.alloc (.cells #[.int .i64 kind, .string p, .string q, .int .i64 at_, .slice a1 old.length c1, .slice a2 new.length c2] 24)) ⟨at_, a1, c1, old, a2, c2, new⟩
          rw [World.size_alloc] at h
          exact h
        have CD1 := Lib.hid (CD.out _ hB1 _ HH1 _ rfl)
        rw [mayB_one] at CD1
        have HB1 := Lib.hid hB1
        clear hB1 HH1
        simp only [decide_eq_true hm, if_true] at CD1
        clear hm
        have b4 := (HP.out.on HB1.out).k4
        have b5 := (HP.out.on HB1.out).k5
        go_wp2_with fail
        refine (CD1.out).mono ?_
        rintro e w2 ⟨rfl, hb⟩
        have HB2 := Lib.hid ((HB1.out).trans (hb.mono (HB1.out).size))
        clear hb b0 b1 b2 b3 b4 b5
        have b0 := (HP.out.on HB2.out).k0
        have b1 := (HP.out.on HB2.out).k1
        have b2 := (HP.out.on HB2.out).k2
        have b3 := (HP.out.on HB2.out).k3
        have b4 := (HP.out.on HB2.out).k4
        have b5 := (HP.out.on HB2.out).k5
        go_wp2_with fail
        refine (CO.out _ HB2.out).mono ?_
        rintro e w3 ⟨rfl, hb⟩
        have HB3 := Lib.hid ((HB2.out).trans (hb.mono (HB2.out).size))
        clear hb b0 b1 b2 b3 b4 b5
        have b0 := (HP.out.on HB3.out).k0
        have b1 := (HP.out.on HB3.out).k1
        have b2 := (HP.out.on HB3.out).k2
        have b3 := (HP.out.on HB3.out).k3
        have b4 := (HP.out.on HB3.out).k4
        have b5 := (HP.out.on HB3.out).k5
        go_wp2_with fail
        refine (CN.out _ HB3.out).mono ?_
        rintro e w4 ⟨rfl, hb⟩
        have HB4 := Lib.hid ((HB3.out).trans (hb.mono (HB3.out).size))
        clear hb b0 b1 b2 b3 b4 b5
        have b0 := (HP.out.on HB4.out).k0
        have b1 := (HP.out.on HB4.out).k1
        have b2 := (HP.out.on HB4.out).k2
        have b3 := (HP.out.on HB4.out).k3
        have b4 := (HP.out.on HB4.out).k4
        have b5 := (HP.out.on HB4.out).k5
        go_wp2
        go_ret
        exact ⟨rfl, HA.out.trans (HB4.out.mono HA.out.size)⟩
    · have hcb : (co == 0) = false := by simpa using hco
      rw [decide_eq_false (fun h => hco h.2.2.1)] at hr
      subst hr
      go_enter Tryd.func42, Tryd.ntmps42
      go_wp2_with fail
      generalize hwa : w.alloc (.cells #[.int .i64 kind, .string p, .string q, .int .i64 at_, .slice a1 old.length c1, .slice a2 new.length c2] 24) = wa at *
      refine (CH.out wa).mono ?_
      rintro e w1 ⟨rfl, rfl⟩
      have hB1 : Below wa.heap.size wa ((wa.alloc (.cells #[.int .i64 kind, .string p, .string q, .int .i64 at_, .slice a1 old.length c1, .slice a2 new.length c2] 24)).alloc (.cells #[.int .i64 at_, .slice a1 old.length c1, .slice a2 new.length c2] 44)) := ((Below.refl _ _).alloc (Nat.le_refl _) _).alloc (by simp) _
      have HH1 : HunkAt ((wa.alloc (.cells #[.int .i64 kind, .string p, .string q, .int .i64 at_, .slice a1 old.length c1, .slice a2 new.length c2] 24)).alloc (.cells #[.int .i64 at_, .slice a1 old.length c1, .slice a2 new.length c2] 44)) (wa.heap.size + 1) ⟨at_, a1, c1, old, a2, c2, new⟩ := by
        have h := HunkAt.new_ (wa.alloc (.cells #[.int .i64 kind, .string p, .string q, .int .i64 at_, .slice a1 old.length c1, .slice a2 new.length c2] 24)) ⟨at_, a1, c1, old, a2, c2, new⟩
        rw [World.size_alloc] at h
        exact h
      have CD1 := Lib.hid (CD.out _ hB1 _ HH1 _ rfl)
      rw [mayB_one] at CD1
      have HB1 := Lib.hid hB1
      clear hB1 HH1
      simp only [decide_eq_true hm, if_true] at CD1
      clear hm
      have b4 := (HP.out.on HB1.out).k4
      have b5 := (HP.out.on HB1.out).k5
      go_wp2_with fail
      refine (CD1.out).mono ?_
      rintro e w2 ⟨rfl, hb⟩
      have HB2 := Lib.hid ((HB1.out).trans (hb.mono (HB1.out).size))
      clear hb b0 b1 b2 b3 b4 b5
      have b0 := (HP.out.on HB2.out).k0
      have b1 := (HP.out.on HB2.out).k1
      have b2 := (HP.out.on HB2.out).k2
      have b3 := (HP.out.on HB2.out).k3
      have b4 := (HP.out.on HB2.out).k4
      have b5 := (HP.out.on HB2.out).k5
      go_wp2_with fail
      refine (CO.out _ HB2.out).mono ?_
      rintro e w3 ⟨rfl, hb⟩
      have HB3 := Lib.hid ((HB2.out).trans (hb.mono (HB2.out).size))
      clear hb b0 b1 b2 b3 b4 b5
      have b0 := (HP.out.on HB3.out).k0
      have b1 := (HP.out.on HB3.out).k1
      have b2 := (HP.out.on HB3.out).k2
      have b3 := (HP.out.on HB3.out).k3
      have b4 := (HP.out.on HB3.out).k4
      have b5 := (HP.out.on HB3.out).k5
      go_wp2
      go_ret
      exact ⟨rfl, HA.out.trans (HB3.out.mono HA.out.size)⟩
  · rw [decide_eq_false (fun h => hm ⟨h.1, h.2.1⟩)] at hr
    subst hr
    go_enter Tryd.func42, Tryd.ntmps42
    go_wp2_with fail
    generalize hwa : w.alloc (.cells #[.int .i64 kind, .string p, .string q, .int .i64 at_, .slice a1 old.length c1, .slice a2 new.length c2] 24) = wa at *
    refine (CH.out wa).mono ?_
    rintro e w1 ⟨rfl, rfl⟩
    have hB1 : Below wa.heap.size wa ((wa.alloc (.cells #[.int .i64 kind, .string p, .string q, .int .i64 at_, .slice a1 old.length c1, .slice a2 new.length c2] 24)).alloc (.cells #[.int .i64 at_, .slice a1 old.length c1, .slice a2 new.length c2] 44)) := ((Below.refl _ _).alloc (Nat.le_refl _) _).alloc (by simp) _
    have HH1 : HunkAt ((wa.alloc (.cells #[.int .i64 kind, .string p, .string q, .int .i64 at_, .slice a1 old.length c1, .slice a2 new.length c2] 24)).alloc (.cells #[.int .i64 at_, .slice a1 old.length c1, .slice a2 new.length c2] 44)) (wa.heap.size + 1) ⟨at_, a1, c1, old, a2, c2, new⟩ := by
      have h := HunkAt.new_ (wa.alloc (.cells #[.int .i64 kind, .string p, .string q, .int .i64 at_, .slice a1 old.length c1, .slice a2 new.length c2] 24)) ⟨at_, a1, c1, old, a2, c2, new⟩
      rw [World.size_alloc] at h
      exact h
    have CD1 := Lib.hid (CD.out _ hB1 _ HH1 _ rfl)
    rw [mayB_one] at CD1
    have HB1 := Lib.hid hB1
    clear hB1 HH1
    simp only [decide_eq_false hm, Bool.false_eq_true, if_false] at CD1
    clear hm
    have b4 := (HP.out.on HB1.out).k4
    have b5 := (HP.out.on HB1.out).k5
    go_wp2_with fail
    refine (CD1.out).mono ?_
    rintro e w2 ⟨rfl, hb⟩
    have HB2 := Lib.hid ((HB1.out).trans (hb.mono (HB1.out).size))
    clear hb b0 b1 b2 b3 b4 b5
    have b0 := (HP.out.on HB2.out).k0
    have b1 := (HP.out.on HB2.out).k1
    have b2 := (HP.out.on HB2.out).k2
    have b3 := (HP.out.on HB2.out).k3
    have b4 := (HP.out.on HB2.out).k4
    have b5 := (HP.out.on HB2.out).k5
    go_wp2
    go_ret
    exact ⟨rfl, HA.out.trans (HB2.out.mono HA.out.size)⟩
end Go.Proofs.YtempamboacbgiaaDoor
