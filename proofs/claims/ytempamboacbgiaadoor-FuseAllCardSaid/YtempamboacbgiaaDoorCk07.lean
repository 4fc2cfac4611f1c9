/- Package path's Split and Right: strings.Split at a slash, and slices.ContainsFunc of what is no name. Words for a step's cells. Package prim's bare, formed. -/
import Derived.Test.YtempamboacbgiaaDoorShelf
import Derived.Test.YtempamboacbgiaaDoorCk06
import Derived.Test.YtempamboacbgiaaDoorCk04
import Derived.Test.YtempamboacbgiaaDoorCk03
import Derived.Test.YtempamboacbgiaaDoorCk05
namespace Go.Proofs.YtempamboacbgiaaDoor
open Go.RowKit
set_option linter.unusedVariables false

theorem strsplit_any (s : ByteArray) (w : World) (hs : s.size ≤ 1000000) : Calls Tryd.prog 59 #[.string s, .string ⟨#[47]⟩] w fun e w' => e = .returned (.slice (some ⟨w.heap.size, 0, none⟩) (pieces s.data.toList).length (pieces s.data.toList).length) ∧ w' = w.alloc (.cells ((toBs (pieces s.data.toList)).map Value.string).toArray 9) := split_slash Tryd.lays146 (by kernel_rfl) s w (by omega)

theorem wrong_any (s : ByteArray) (w : World) (hs : s.size ≤ 1000000) :
    Calls Tryd.prog 63 #[.string s] w fun e w' => e = .returned (.bool (!rightB s)) ∧ Below w.heap.size w w' := by
  have C := Lib.hid (right_any s w (by omega))
  generalize rightB s = b at *
  go_enter Tryd.func63, Tryd.ntmps63
  go_wp2_with fail
  refine C.out.mono ?_
  rintro e w1 ⟨rfl, hb⟩
  go_wp2
  go_ret
  exact ⟨rfl, hb⟩

theorem all_no {ls : List (List UInt8)} {k : Nat} (hk : k < ls.length) (h : nameP ls[k] = false) : ls.all nameP = false := by
  rw [List.all_eq_false]
  exact ⟨ls[k], List.getElem_mem _, by rw [h]; exact Bool.false_ne_true⟩
theorem all_yes {ls : List (List UInt8)} (h : ∀ k (hk : k < ls.length), nameP ls[k] = true) : ls.all nameP = true := by
  rw [List.all_eq_true]
  intro x hx
  obtain ⟨k, hk, rfl⟩ := List.getElem_of_mem hx
  exact h k hk

set_option maxHeartbeats 1000000 in
set_option maxRecDepth 100000 in
theorem indexfunc_any (A : Option Addr) (ls : List (List UInt8)) (cap : Nat) (w : World) (hs : Strs w w.heap.size A (toBs ls)) (hn : ls.length ≤ 1000000) (hl : ∀ x ∈ ls, x.length ≤ 1000000) :
    Calls Tryd.prog 71 #[.slice A ls.length cap, .func (.func 63) #[] #[]] w fun e w' => ∃ r : Int, e = .returned (.int .i64 r) ∧ decide (0 ≤ r) = !(ls.all nameP) ∧ Below w.heap.size w w' := by
  have HS := Lib.hid hs
  have HL := Lib.hid hl
  clear hs hl
  go_enter Tryd.func71, Tryd.ntmps71
  go_wp2
  go_loopw [8] (fun i wr => ∃ k : Nat, k ≤ ls.length ∧ i = .int .i64 (k : Int) ∧ Hid (∀ j (hj : j < ls.length), j < k → nameP ls[j] = true) ∧ Below w.heap.size w wr) (fun i _ => ls.length - (intOf i).toNat)
  case atStart => exact ⟨0, Nat.zero_le _, rfl, fun j _ h => absurd h (by omega), Below.refl _ _⟩
  case round =>
    obtain ⟨k, hk, rfl, hall, hb⟩ := hrel
    by_cases hlt : k < ls.length
    · obtain ⟨g, off, rfl, hg, hc⟩ := (HS.out.on hb).at_ (k := k) (by rw [toBs_len]; exact hlt)
      have e1 : (toBs ls)[k]'(by rw [toBs_len]; exact hlt) = toB ls[k] := by simp [toBs]
      rw [e1] at hc
      have hz : (toB ls[k]).size ≤ 1000000 := by
        have := HL.out ls[k] (List.getElem_mem _)
        simpa [toB, ByteArray.size] using this
      have C := Lib.hid (wrong_any (toB ls[k]) wr hz)
      cases hd : rightB (toB ls[k]) with
      | false =>
        have hfin : Hid (ls.all nameP = false) := all_no hlt hd
        rw [hd] at C
        have HB := Lib.hid hb
        clear hall hd e1 hz hb
        generalize toB ls[k] = z at *
        go_wp2_with fail
        refine C.out.mono ?_
        rintro e w1 ⟨rfl, hb1⟩
        have HB2 := Lib.hid (HB.out.trans (hb1.mono HB.out.size))
        clear hb1
        go_wp2
        go_ret
        exact ⟨k, rfl, by rw [hfin.out]; simp, HB2.out⟩
      | true =>
        have hyes : Hid (∀ j (hj : j < ls.length), j < k + 1 → nameP ls[j] = true) := by
          intro j hj hjk
          by_cases hjk2 : j = k
          · subst hjk2; exact hd
          · exact hall.out j hj (by omega)
        rw [hd] at C
        have HB := Lib.hid hb
        clear hall hd e1 hz hb
        generalize toB ls[k] = z at *
        go_wp2_with fail
        refine C.out.mono ?_
        rintro e w1 ⟨rfl, hb1⟩
        have HB2 := Lib.hid (HB.out.trans (hb1.mono HB.out.size))
        clear hb1
        go_wp2
        go_roundw
        case rel => exact ⟨k + 1, by omega, by go_num, hyes, HB2.out⟩
        case measure => simp [intOf]; omega
    · obtain rfl : k = ls.length := by omega
      have hfin : Hid (ls.all nameP = true) := all_yes fun j hj => hall.out j hj hj
      clear hall
      go_wp2
      go_ret
      exact ⟨-1, rfl, by rw [hfin.out]; rfl, hb⟩
theorem containsfunc_any (A : Option Addr) (ls : List (List UInt8)) (cap : Nat) (w : World) (hs : Strs w w.heap.size A (toBs ls)) (hn : ls.length ≤ 1000000) (hl : ∀ x ∈ ls, x.length ≤ 1000000) :
    Calls Tryd.prog 65 #[.slice A ls.length cap, .func (.func 63) #[] #[]] w fun e w' => e = .returned (.bool (!(ls.all nameP))) ∧ Below w.heap.size w w' := by
  have C := Lib.hid (indexfunc_any A ls cap w hs hn hl)
  clear hs hl
  go_enter Tryd.func65, Tryd.ntmps65
  go_wp2_with fail
  refine C.out.mono ?_
  rintro e w1 ⟨r, rfl, hr, hb⟩
  have HR := Lib.hid hr
  clear hr C
  go_wp2
  go_ret
  rw [← HR.out]
  exact ⟨rfl, hb⟩

/-- Whether a row may be a path's names. -/
def areB (ls : List (List UInt8)) : Bool := decide (ls.length ≤ 16) && ls.all nameP
set_option maxHeartbeats 1000000 in
set_option maxRecDepth 100000 in
theorem arenames_any (A : Option Addr) (ls : List (List UInt8)) (cap : Nat) (w : World) (hs : Strs w w.heap.size A (toBs ls)) (hn : ls.length ≤ 1000000) (hl : ∀ x ∈ ls, x.length ≤ 1000000) :
    Calls Tryd.prog 60 #[.slice A ls.length cap] w fun e w' => e = .returned (.bool (areB ls)) ∧ Below w.heap.size w w' := by
  have C := Lib.hid (containsfunc_any A ls cap w hs hn hl)
  unfold areB
  clear hs hl
  by_cases h16 : 16 < ls.length
  · rw [decide_eq_false (show ¬ ls.length ≤ 16 by omega)]
    go_enter Tryd.func60, Tryd.ntmps60
    go_wp2
    go_ret
    exact ⟨rfl, Below.refl _ _⟩
  · rw [decide_eq_true (show ls.length ≤ 16 by omega)]
    generalize ls.all nameP = b at *
    go_enter Tryd.func60, Tryd.ntmps60
    go_wp2_with fail
    refine C.out.mono ?_
    rintro e w1 ⟨rfl, hb⟩
    have HB := Lib.hid hb
    clear hb C
    cases b <;> go_wp2 <;> go_ret <;> exact ⟨rfl, HB.out⟩

theorem pieces_le : ∀ (p : List UInt8), (pieces p).length ≤ p.length + 1 ∧ ∀ x ∈ pieces p, x.length ≤ p.length
  | [] => by simp [pieces]
  | c :: l => by
    obtain ⟨h1, h2⟩ := pieces_le l
    unfold pieces
    split
    · refine ⟨by simp; omega, fun x hx => ?_⟩
      rcases List.mem_cons.1 hx with rfl | hx
      · simp
      · have := h2 x hx; simp; omega
    · split
      · rename_i e; exact absurd e (pieces_ne l)
      · rename_i h t e
        rw [e] at h1 h2
        refine ⟨by simp at h1 ⊢; omega, fun x hx => ?_⟩
        rcases List.mem_cons.1 hx with rfl | hx
        · have := h2 h (by simp); simp; omega
        · have := h2 x (by simp [hx]); simp; omega

set_option maxHeartbeats 1000000 in
set_option maxRecDepth 100000 in
theorem split_any (s : ByteArray) (w : World) (hs : s.size ≤ 1000000) : Calls Tryd.prog 55 #[.string s] w (RowLeft w (pnames s)) := by
  have hsz : s.data.toList.length = s.size := by simp
  unfold pnames
  by_cases h2 : 200 < s.size
  · have hr : Hid (names nameP s.data.toList = []) := names_long (by omega)
    clear hsz
    go_enter Tryd.func55, Tryd.ntmps55
    go_wp2
    go_ret
    rw [hr.out]
    exact ⟨none, 0, rfl, fun _ => rfl, Strs.none_, Below.refl _ _⟩
  · obtain ⟨p, hp⟩ : ∃ p, s.data.toList = p := ⟨_, rfl⟩
    have C := Lib.hid (strsplit_any s w (by omega))
    rw [hp] at C hsz ⊢
    obtain ⟨hpl, hpx⟩ := pieces_le p
    have hal : Below w.heap.size w (w.alloc (.cells ((toBs (pieces p)).map Value.string).toArray 9)) := (Below.refl _ _).alloc (Nat.le_refl _) _
    have HST := Lib.hid ((strs_new w (toBs (pieces p))).more (B' := (w.alloc (.cells ((toBs (pieces p)).map Value.string).toArray 9)).heap.size) (by simp))
    have H200 : Hid (p.length ≤ 200) := by show _ ≤ _; omega
    have HX : Hid (∀ x ∈ pieces p, x.length ≤ 1000000) := fun x hx => by have := hpx x hx; omega
    have HL : Hid ((pieces p).length ≤ 1000000) := by show _ ≤ _; omega
    have HA := Lib.hid hal
    obtain ⟨q, hq⟩ : ∃ q, pieces p = q := ⟨_, rfl⟩
    have HQ := Lib.hid hq
    rw [hq] at C HST HX HL HA
    have hql := HL.out
    clear hal hpx hpl hp hsz hq
    have CF := Lib.hid (arenames_any (some ⟨w.heap.size, 0, none⟩) q q.length _ HST.out HL.out HX.out)
    cases hall : areB q with
    | false =>
      have hr : Hid (names nameP p = []) := by
        show _ = _
        unfold names
        rw [if_neg]
        rintro ⟨_, h, h'⟩
        rw [HQ.out] at h h'
        unfold areB at hall
        rw [h, decide_eq_true h'] at hall
        cases hall
      rw [hall] at CF
      clear hall
      go_enter Tryd.func55, Tryd.ntmps55
      go_wp2_with fail
      refine C.out.mono ?_
      rintro e w1 ⟨rfl, rfl⟩
      go_wp2_with fail
      refine CF.out.mono ?_
      rintro e w2 ⟨rfl, hb⟩
      have HB := Lib.hid (HA.out.trans (hb.mono HA.out.size))
      clear hb
      go_wp2
      go_ret
      rw [hr.out]
      exact ⟨none, 0, rfl, fun _ => rfl, Strs.none_, HB.out⟩
    | true =>
      have hr : Hid (names nameP p = q) := by
        show _ = _
        unfold names
        unfold areB at hall
        simp only [Bool.and_eq_true, decide_eq_true_eq] at hall
        rw [if_pos, HQ.out]
        rw [HQ.out]
        exact ⟨H200.out, hall.2, hall.1⟩
      rw [hall] at CF
      clear hall
      go_enter Tryd.func55, Tryd.ntmps55
      go_wp2_with fail
      refine C.out.mono ?_
      rintro e w1 ⟨rfl, rfl⟩
      go_wp2_with fail
      refine CF.out.mono ?_
      rintro e w2 ⟨rfl, hb⟩
      have HB := Lib.hid (HA.out.trans (hb.mono HA.out.size))
      have HS2 := Lib.hid (HST.out.on hb)
      clear hb
      go_wp2
      go_ret
      rw [hr.out]
      exact ⟨some ⟨w.heap.size, 0, none⟩, q.length, rfl, fun h => (by cases h), HS2.out, HB.out⟩

theorem pright_any (s : ByteArray) (w : World) (hs : s.size ≤ 1000000) : Calls Tryd.prog 49 #[.string s] w fun e w' => e = .returned (.bool (decide (pnames s ≠ []))) ∧ Below w.heap.size w w' := by
  have C := Lib.hid (split_any s w hs)
  have hne : decide (pnames s ≠ []) = decide (0 < (pnames s).length) := by
    rw [decide_eq_decide]
    exact List.length_pos_iff.symm
  rw [hne]
  generalize (pnames s) = l at *
  clear hne hs
  go_enter Tryd.func49, Tryd.ntmps49
  go_wp2_with fail
  refine C.out.mono ?_
  rintro e w1 ⟨A, cap, rfl, hA, hs, hb⟩
  have HB := Lib.hid hb
  clear hb hs hA C
  go_wp2
  go_ret
  exact ⟨rfl, HB.out⟩
end Go.Proofs.YtempamboacbgiaaDoor
namespace Go.Proofs.YtempamboacbgiaaDoor
open Go.RowKit
set_option linter.unusedVariables false

/-- A step's cells in block G, plainly. -/
structure PAt (w : World) (G : Nat) (kind : Int) (p q : ByteArray) (at_ : Int) (a1 : Option Addr) (n1 c1 : Nat) (a2 : Option Addr) (n2 c2 : Nat) : Prop where
  h : w.heap[G]? = some (.cells #[.int .i64 kind, .string p, .string q, .int .i64 at_, .slice a1 n1 c1, .slice a2 n2 c2] 24 (0, 0))
section
variable {w w' : World} {G : Nat} {kind : Int} {p q : ByteArray} {at_ : Int} {a1 : Option Addr} {n1 c1 : Nat} {a2 : Option Addr} {n2 c2 : Nat}
theorem PAt.k0 (k : PAt w G kind p q at_ a1 n1 c1 a2 n2 c2) : w.cell? ⟨G, 0, none⟩ = some (.int .i64 kind) := by simp [World.cell?, k.h]
theorem PAt.k1 (k : PAt w G kind p q at_ a1 n1 c1 a2 n2 c2) : w.cell? ⟨G, 1, none⟩ = some (.string p) := by simp [World.cell?, k.h]
theorem PAt.k2 (k : PAt w G kind p q at_ a1 n1 c1 a2 n2 c2) : w.cell? ⟨G, 2, none⟩ = some (.string q) := by simp [World.cell?, k.h]
theorem PAt.k3 (k : PAt w G kind p q at_ a1 n1 c1 a2 n2 c2) : w.cell? ⟨G, 3, none⟩ = some (.int .i64 at_) := by simp [World.cell?, k.h]
theorem PAt.k4 (k : PAt w G kind p q at_ a1 n1 c1 a2 n2 c2) : w.cell? ⟨G, 4, none⟩ = some (.slice a1 n1 c1) := by simp [World.cell?, k.h]
theorem PAt.k5 (k : PAt w G kind p q at_ a1 n1 c1 a2 n2 c2) : w.cell? ⟨G, 5, none⟩ = some (.slice a2 n2 c2) := by simp [World.cell?, k.h]
theorem PAt.lt (k : PAt w G kind p q at_ a1 n1 c1 a2 n2 c2) : G < w.heap.size := (Array.getElem?_eq_some_iff.1 k.h).1
theorem PAt.on (k : PAt w G kind p q at_ a1 n1 c1 a2 n2 c2) (hb : Below w.heap.size w w') : PAt w' G kind p q at_ a1 n1 c1 a2 n2 c2 := ⟨(hb.block G k.lt).trans k.h⟩
end
theorem PAt.new_ (w : World) (kind : Int) (p q : ByteArray) (at_ : Int) (a1 : Option Addr) (n1 c1 : Nat) (a2 : Option Addr) (n2 c2 : Nat) : PAt (w.alloc (.cells #[.int .i64 kind, .string p, .string q, .int .i64 at_, .slice a1 n1 c1, .slice a2 n2 c2] 24)) w.heap.size kind p q at_ a1 n1 c1 a2 n2 c2 := ⟨heap_alloc_new w _⟩
theorem q_empty {q : ByteArray} (h : q = ⟨#[]⟩) : (q.toList == []) = true := by rw [h, toList_eq]; rfl
end Go.Proofs.YtempamboacbgiaaDoor
namespace Go.Proofs.YtempamboacbgiaaDoor
open Go.RowKit
set_option linter.unusedVariables false

set_option maxHeartbeats 20000000 in
set_option maxRecDepth 100000 in
theorem bare_any (kind : Int) (p q : ByteArray) (at_ : Int) (a1 : Option Addr) (n1 c1 : Nat) (a2 : Option Addr) (n2 c2 : Nat) (w : World) (r : Bool) (hr : decide (at_ = 0 ∧ n1 = 0 ∧ n2 = 0) = r) :
    Calls Tryd.prog 48 #[.agg #[.int .i64 kind, .string p, .string q, .int .i64 at_, .slice a1 n1 c1, .slice a2 n2 c2]] w fun e w' => e = .returned (.bool r) ∧ Below w.heap.size w w' := by
  by_cases ha : at_ = 0
  · subst ha
    by_cases hn1 : n1 = 0
    · subst hn1
      by_cases hn2 : n2 = 0
      · subst hn2
        have hal : Below w.heap.size w (w.alloc (.cells #[.int .i64 kind, .string p, .string q, .int .i64 0, .slice a1 0 c1, .slice a2 0 c2] 24)) := (Below.refl _ _).alloc (Nat.le_refl _) _
        have HP : Hid (PAt (w.alloc (.cells #[.int .i64 kind, .string p, .string q, .int .i64 0, .slice a1 0 c1, .slice a2 0 c2] 24)) w.heap.size kind p q 0 a1 0 c1 a2 0 c2) := PAt.new_ w kind p q 0 a1 0 c1 a2 0 c2
        have HA := Lib.hid hal
        clear hal
        have b0 := HP.out.k0
        have b1 := HP.out.k1
        have b2 := HP.out.k2
        have b3 := HP.out.k3
        have b4 := HP.out.k4
        have b5 := HP.out.k5
        simp at hr
        subst hr
        go_enter Tryd.func48, Tryd.ntmps48
        go_wp2
        go_ret
        exact ⟨rfl, HA.out⟩
      · have hn22 : (((n2 : Nat) : Int) == 0) = false := by simpa using hn2
        have hal : Below w.heap.size w (w.alloc (.cells #[.int .i64 kind, .string p, .string q, .int .i64 0, .slice a1 0 c1, .slice a2 n2 c2] 24)) := (Below.refl _ _).alloc (Nat.le_refl _) _
        have HP : Hid (PAt (w.alloc (.cells #[.int .i64 kind, .string p, .string q, .int .i64 0, .slice a1 0 c1, .slice a2 n2 c2] 24)) w.heap.size kind p q 0 a1 0 c1 a2 n2 c2) := PAt.new_ w kind p q 0 a1 0 c1 a2 n2 c2
        have HA := Lib.hid hal
        clear hal
        have b0 := HP.out.k0
        have b1 := HP.out.k1
        have b2 := HP.out.k2
        have b3 := HP.out.k3
        have b4 := HP.out.k4
        have b5 := HP.out.k5
        simp [hn2] at hr
        subst hr
        go_enter Tryd.func48, Tryd.ntmps48
        go_wp2
        go_ret
        exact ⟨rfl, HA.out⟩
    · have hn12 : (((n1 : Nat) : Int) == 0) = false := by simpa using hn1
      have hal : Below w.heap.size w (w.alloc (.cells #[.int .i64 kind, .string p, .string q, .int .i64 0, .slice a1 n1 c1, .slice a2 n2 c2] 24)) := (Below.refl _ _).alloc (Nat.le_refl _) _
      have HP : Hid (PAt (w.alloc (.cells #[.int .i64 kind, .string p, .string q, .int .i64 0, .slice a1 n1 c1, .slice a2 n2 c2] 24)) w.heap.size kind p q 0 a1 n1 c1 a2 n2 c2) := PAt.new_ w kind p q 0 a1 n1 c1 a2 n2 c2
      have HA := Lib.hid hal
      clear hal
      have b0 := HP.out.k0
      have b1 := HP.out.k1
      have b2 := HP.out.k2
      have b3 := HP.out.k3
      have b4 := HP.out.k4
      have b5 := HP.out.k5
      simp [hn1] at hr
      subst hr
      go_enter Tryd.func48, Tryd.ntmps48
      go_wp2
      go_ret
      exact ⟨rfl, HA.out⟩
  · have ha2 : (at_ == 0) = false := by simpa using ha
    have hal : Below w.heap.size w (w.alloc (.cells #[.int .i64 kind, .string p, .string q, .int .i64 at_, .slice a1 n1 c1, .slice a2 n2 c2] 24)) := (Below.refl _ _).alloc (Nat.le_refl _) _
    have HP : Hid (PAt (w.alloc (.cells #[.int .i64 kind, .string p, .string q, .int .i64 at_, .slice a1 n1 c1, .slice a2 n2 c2] 24)) w.heap.size kind p q at_ a1 n1 c1 a2 n2 c2) := PAt.new_ w kind p q at_ a1 n1 c1 a2 n2 c2
    have HA := Lib.hid hal
    clear hal
    have b0 := HP.out.k0
    have b1 := HP.out.k1
    have b2 := HP.out.k2
    have b3 := HP.out.k3
    have b4 := HP.out.k4
    have b5 := HP.out.k5
    simp [ha] at hr
    subst hr
    go_enter Tryd.func48, Tryd.ntmps48
    go_wp2
    go_ret
    exact ⟨rfl, HA.out⟩
/-- Has a step a kind, and no part that this kind has not? -/
def formB (kind : Int) (q : ByteArray) (at_ : Int) (n1 n2 : Nat) : Bool := decide ((1 ≤ kind ∧ kind ≤ 6) ∧ (kind ≠ 5 → q = ⟨#[]⟩) ∧ (kind ≠ 6 → at_ = 0 ∧ n1 = 0 ∧ n2 = 0))
set_option maxHeartbeats 20000000 in
set_option maxRecDepth 100000 in
theorem formed_any (kind : Int) (p q : ByteArray) (at_ : Int) (a1 : Option Addr) (n1 c1 : Nat) (a2 : Option Addr) (n2 c2 : Nat) (w : World) (r : Bool) (hr : formB kind q at_ n1 n2 = r) :
    Calls Tryd.prog 40 #[.agg #[.int .i64 kind, .string p, .string q, .int .i64 at_, .slice a1 n1 c1, .slice a2 n2 c2]] w fun e w' => e = .returned (.bool r) ∧ Below w.heap.size w w' := by
  have CB := Lib.hid (fun (b : Bool) (hb : decide (at_ = 0 ∧ n1 = 0 ∧ n2 = 0) = b) W => bare_any kind p q at_ a1 n1 c1 a2 n2 c2 W b hb)
  have hal : Below w.heap.size w (w.alloc (.cells #[.int .i64 kind, .string p, .string q, .int .i64 at_, .slice a1 n1 c1, .slice a2 n2 c2] 24)) := (Below.refl _ _).alloc (Nat.le_refl _) _
  have HP : Hid (PAt (w.alloc (.cells #[.int .i64 kind, .string p, .string q, .int .i64 at_, .slice a1 n1 c1, .slice a2 n2 c2] 24)) w.heap.size kind p q at_ a1 n1 c1 a2 n2 c2) := PAt.new_ w kind p q at_ a1 n1 c1 a2 n2 c2
  have HA := Lib.hid hal
  clear hal
  have b0 := HP.out.k0
  have b1 := HP.out.k1
  have b2 := HP.out.k2
  have b3 := HP.out.k3
  have b4 := HP.out.k4
  have b5 := HP.out.k5
  unfold formB at hr
  by_cases hk1 : kind < 1
  · have e1 : ∀ j : Int, 1 ≤ j → (kind == j) = false := fun j hj => by simp; omega
    have e11 := e1 1 (by decide)
    have e12 := e1 2 (by decide)
    have e13 := e1 3 (by decide)
    have e14 := e1 4 (by decide)
    have e15 := e1 5 (by decide)
    have e16 := e1 6 (by decide)
    have hk2 : ¬ 1 ≤ kind := by omega
    clear CB e1
    simp [hk2] at hr
    subst hr
    go_enter Tryd.func40, Tryd.ntmps40
    go_wp2
    go_ret
    exact ⟨rfl, HA.out⟩
  · by_cases hk6 : 6 < kind
    · have e1 : ∀ j : Int, j ≤ 6 → (kind == j) = false := fun j hj => by simp; omega
      have e11 := e1 1 (by decide)
      have e12 := e1 2 (by decide)
      have e13 := e1 3 (by decide)
      have e14 := e1 4 (by decide)
      have e15 := e1 5 (by decide)
      have e16 := e1 6 (by decide)
      have hk2 : ¬ kind ≤ 6 := by omega
      clear CB e1
      simp [hk2] at hr
      subst hr
      go_enter Tryd.func40, Tryd.ntmps40
      go_wp2
      go_ret
      exact ⟨rfl, HA.out⟩
    · have hk : (kind = 1 ∨ kind = 2 ∨ kind = 3 ∨ kind = 4) ∨ kind = 5 ∨ kind = 6 := by omega
      clear hk1 hk6
      rcases hk with hk | rfl | rfl
      · by_cases hq : q = ⟨#[]⟩
        · have hq2 := q_empty hq
          rcases hk with rfl | rfl | rfl | rfl
          all_goals
            obtain ⟨b, hb⟩ : ∃ b, decide (at_ = 0 ∧ n1 = 0 ∧ n2 = 0) = b := ⟨_, rfl⟩
            have CB1 := Lib.hid (CB.out b hb)
            have hrb : r = b := by rw [← hr, ← hb]; simp [hq]
            subst hrb
            clear hr hb CB hq
            go_enter Tryd.func40, Tryd.ntmps40
            go_wp2_with fail
            refine (CB1.out _).mono ?_
            rintro e w1 ⟨rfl, hb⟩
            have HB1 := Lib.hid hb
            clear hb b0 b1 b2 b3 b4 b5
            have b0 := (HP.out.on HB1.out).k0
            have b1 := (HP.out.on HB1.out).k1
            have b2 := (HP.out.on HB1.out).k2
            have b3 := (HP.out.on HB1.out).k3
            have b4 := (HP.out.on HB1.out).k4
            have b5 := (HP.out.on HB1.out).k5
            go_wp2
            go_ret
            exact ⟨rfl, HA.out.trans (HB1.out.mono HA.out.size)⟩
        · have hq2 : (q.toList == []) = false := str_ne_empty hq
          clear CB
          rcases hk with rfl | rfl | rfl | rfl
          all_goals
            simp [hq] at hr
            subst hr
            clear hq
            go_enter Tryd.func40, Tryd.ntmps40
            go_wp2
            go_ret
            exact ⟨rfl, HA.out⟩
      · obtain ⟨b, hb⟩ : ∃ b, decide (at_ = 0 ∧ n1 = 0 ∧ n2 = 0) = b := ⟨_, rfl⟩
        have CB1 := Lib.hid (CB.out b hb)
        have hrb : r = b := by rw [← hr, ← hb]; simp 
        subst hrb
        clear hr hb CB
        go_enter Tryd.func40, Tryd.ntmps40
        go_wp2_with fail
        refine (CB1.out _).mono ?_
        rintro e w1 ⟨rfl, hb⟩
        have HB1 := Lib.hid hb
        clear hb b0 b1 b2 b3 b4 b5
        have b0 := (HP.out.on HB1.out).k0
        have b1 := (HP.out.on HB1.out).k1
        have b2 := (HP.out.on HB1.out).k2
        have b3 := (HP.out.on HB1.out).k3
        have b4 := (HP.out.on HB1.out).k4
        have b5 := (HP.out.on HB1.out).k5
        go_wp2
        go_ret
        exact ⟨rfl, HA.out.trans (HB1.out.mono HA.out.size)⟩
      · clear CB
        by_cases hq : q = ⟨#[]⟩
        · have hq2 := q_empty hq
          simp [hq] at hr
          subst hr
          clear hq
          go_enter Tryd.func40, Tryd.ntmps40
          go_wp2
          go_ret
          exact ⟨rfl, HA.out⟩
        · have hq2 : (q.toList == []) = false := str_ne_empty hq
          simp [hq] at hr
          subst hr
          clear hq
          go_enter Tryd.func40, Tryd.ntmps40
          go_wp2
          go_ret
          exact ⟨rfl, HA.out⟩
end Go.Proofs.YtempamboacbgiaaDoor
