/- Package path's Less, once more: beside 'Below', draws that only grow; what the library's sort asks. -/
import Derived.BigQuiet
import Derived.Deep.QuietTactic
import Derived.Handy
import Derived.Lib.QuietBelow
import Derived.Test.YtalabahjfmcnbaaGreatDoorCk42
namespace Go.Proofs.YtalabahjfmcnbaaGreatDoor
open Go.RowKit
set_option linter.unusedVariables false

/-- Of what was there nothing has turned; the tape was asked on. -/
structure Bd (w w' : World) : Prop where
  b : Below w.heap.size w w'
  d : w.drawn ≤ w'.drawn
section
variable {w w' w2 : World}
theorem Bd.refl (w : World) : Bd w w := ⟨Below.refl _ _, Nat.le_refl _⟩
theorem Bd.trans (h : Bd w w') (k : Bd w' w2) : Bd w w2 := ⟨h.b.trans (k.b.mono h.b.size), Nat.le_trans h.d k.d⟩
theorem Bd.alloc (h : Bd w w') (o : Obj) : Bd w (w'.alloc o) := ⟨h.b.alloc h.b.size o, by simpa using h.d⟩
theorem Bd.drewN (h : Bd w w') (n : Nat) : Bd w (w'.drewN n) := ⟨below_drewN h.b n, Nat.le_trans h.d (Nat.le_add_right _ _)⟩
theorem Bd.size (h : Bd w w') : w.heap.size ≤ w'.heap.size := h.b.size
theorem Bd.grow (h : Bd w w') : ∃ q os, w' = Sort.grow (w.drewN q) os := by
  obtain ⟨p, rfl⟩ := regrown_of_below h.b
  have hd : w.drawn ≤ p.d := h.d
  refine ⟨p.d - w.drawn, p.os, ?_⟩
  have e : redrawn w p.d = w.drewN (p.d - w.drawn) := by
    unfold redrawn World.drewN
    congr 1
    omega
  rw [e]
end
def RowLeftD (w : World) (ls : List (List UInt8)) (e : Ending) (w' : World) : Prop :=
  ∃ A cap, e = .returned (.slice A ls.length cap) ∧ (A = none → cap = 0) ∧ Strs w' w'.heap.size A (toBs ls) ∧ Bd w w'
set_option maxRecDepth 100000 in
theorem madeOf1_d (B : Nat) (L s : ByteArray) (w : World) (hB : B < w.heap.size) (hc : w.cell? ⟨B, 0, none⟩ = some (.string L)) (hs : s.size ≤ 9223372036854775807) :
    Calls Tryz.prog 182 #[.string s, .pointer (some ⟨B, 0, none⟩)] w fun e w' => e = .returned (.bool (allIn L s)) ∧ Bd w w' := by
  go_enter Tryz.func182, Tryz.ntmps182
  go_wp2
  go_loopw [7] (fun i wr => ∃ k : Nat, k ≤ s.size ∧ i = .int .i64 (k : Int) ∧ Hid (∀ j (hj : j < s.size), j < k → L.data.toList.contains s[j] = true) ∧ Bd w wr) (fun i _ => s.size - (intOf i).toNat)
  case atStart => exact ⟨0, Nat.zero_le _, rfl, fun j _ h => absurd h (by omega), Bd.refl _⟩
  case round =>
    obtain ⟨k, hk, rfl, hall, hb⟩ := hrel
    have hcr : wr.cell? ⟨B, 0, none⟩ = some (.string L) := (hb.b.cell (p := ⟨B, 0, none⟩) hB).trans hc
    by_cases hlt : k < s.size
    · have hx : ∀ W, Calls Tryz.prog 183 #[.string L, .int .u8 (s[k].toNat : Int)] W fun e w' => e = .returned (.int .i64 (Lib.indexByte L.data.toList s[k])) ∧ w' = W := fun W => by
        have h := Tryz.strings_IndexByte L (s[k].toNat : Int) W
        simpa using h
      by_cases hin : L.data.toList.contains s[k] = true
      · have hneg : ¬ Lib.indexByte L.data.toList s[k] < 0 := by
          rw [indexByte_neg, hin]; simp
        have hyes : Hid (∀ j (hj : j < s.size), j < k + 1 → L.data.toList.contains s[j] = true) := by
          intro j hj hjk
          by_cases hjk2 : j = k
          · subst hjk2; exact hin
          · exact hall.out j hj (by omega)
        clear hall hin
        generalize Lib.indexByte L.data.toList s[k] = x at *
        go_wp2
        go_quiet (first | (go_at_call 183; refine Calls.quiet_of_same (hx _)))
        go_wp2
        go_roundw
        case rel => exact ⟨k + 1, by omega, by go_num, hyes, hb.drewN _⟩
        case measure => simp [intOf]; omega
      · have hin2 : L.data.toList.contains s[k] = false := by simpa using hin
        have hneg : Lib.indexByte L.data.toList s[k] < 0 := (indexByte_neg _ _).2 hin2
        have hno := Lib.hid (allIn_no hlt hin2)
        clear hall hin hin2
        generalize Lib.indexByte L.data.toList s[k] = x at *
        go_wp2
        go_quiet (first | (go_at_call 183; refine Calls.quiet_of_same (hx _)))
        go_wp2
        go_ret
        rw [hno.out]
        exact ⟨rfl, hb.drewN _⟩
    · have hk2 : k = s.size := by omega
      subst hk2
      have hyes := Lib.hid (allIn_yes fun j hj => hall.out j hj hj)
      clear hall
      go_wp2
      go_ret
      rw [hyes.out]
      exact ⟨rfl, hb⟩
set_option maxRecDepth 100000 in
theorem right_d (s : ByteArray) (w : World) (hs : s.size ≤ 9223372036854775807) :
    Calls Tryz.prog 153 #[.string s] w fun e w' => e = .returned (.bool (rightB s)) ∧ Bd w w' := by
  by_cases h1 : s.size < 1
  · have hr : rightB s = false := by simp [rightB]; omega
    rw [hr]
    go_enter Tryz.func153, Tryz.ntmps153
    go_wp2
    go_ret
    exact ⟨rfl, Bd.refl _⟩
  · by_cases h2 : 40 < s.size
    · have hr : rightB s = false := by simp [rightB]; omega
      rw [hr]
      go_enter Tryz.func153, Tryz.ntmps153
      go_wp2
      go_ret
      exact ⟨rfl, Bd.refl _⟩
    · by_cases h3 : s = ⟨#[46]⟩
      · subst h3
        have hr : rightB ⟨#[46]⟩ = false := by decide
        rw [hr]
        go_enter Tryz.func153, Tryz.ntmps153
        go_wp2
        go_ret
        exact ⟨rfl, Bd.refl _⟩
      · by_cases h4 : s = ⟨#[46, 46]⟩
        · subst h4
          have hr : rightB ⟨#[46, 46]⟩ = false := by decide
          rw [hr]
          go_enter Tryz.func153, Tryz.ntmps153
          go_wp2
          go_ret
          exact ⟨rfl, Bd.refl _⟩
        · rw [rightB_full (by omega) (by omega) h3 h4]
          have e3 := ne_toList (l := [46]) h3
          have e4 := ne_toList (l := [46, 46]) h4
          have b3 := ne_beq (l := [46]) h3
          have b4 := ne_beq (l := [46, 46]) h4
          have hc := madeOf1_d w.heap.size nameL s (w.alloc (.cells #[.string nameL] 9)) (by simp) (by rw [World.cell?_alloc_new]; rfl) hs
          have hm := madeOf_any nameL w
          unfold nameL at hm hc
          obtain ⟨r, hr⟩ : ∃ r, Hid (allIn nameL s = r) := ⟨_, rfl⟩
          rw [show allIn ⟨#[97, 98, 99, 100, 101, 102, 103, 104, 105, 106, 107, 108, 109, 110, 111, 112, 113, 114, 115, 116, 117, 118, 119, 120, 121, 122, 48, 49, 50, 51, 52, 53, 54, 55, 56, 57, 46, 95, 45]⟩ s = r from hr.out] at hc
          rw [hr.out]
          clear h3 h4
          go_enter Tryz.func153, Tryz.ntmps153
          go_wp2_with (first
            | (go_at_call 172; refine hm.mono ?_; rintro e w1 ⟨rfl, rfl⟩)
            | (go_at_call 182; refine hc.mono ?_; rintro e w2 ⟨rfl, hb2⟩))
          go_ret
          exact ⟨rfl, ((Bd.refl w).alloc _).trans hb2⟩
theorem wrong_d (s : ByteArray) (w : World) (hs : s.size ≤ 1000000) :
    Calls Tryz.prog 152 #[.string s] w fun e w' => e = .returned (.bool (!rightB s)) ∧ Bd w w' := by
  have C := Lib.hid (right_d s w (by omega))
  generalize rightB s = b at *
  go_enter Tryz.func152, Tryz.ntmps152
  go_wp2_with fail
  refine C.out.mono ?_
  rintro e w1 ⟨rfl, hb⟩
  go_wp2
  go_ret
  exact ⟨rfl, hb⟩
set_option maxHeartbeats 1000000 in
set_option maxRecDepth 100000 in
theorem indexfunc_d (A : Option Addr) (ls : List (List UInt8)) (cap : Nat) (w : World) (hs : Strs w w.heap.size A (toBs ls)) (hn : ls.length ≤ 1000000) (hl : ∀ x ∈ ls, x.length ≤ 1000000) :
    Calls Tryz.prog 173 #[.slice A ls.length cap, .func (.func 152) #[] #[]] w fun e w' => ∃ r : Int, e = .returned (.int .i64 r) ∧ decide (0 ≤ r) = !(ls.all nameP) ∧ Bd w w' := by
  have HS := Lib.hid hs
  have HL := Lib.hid hl
  clear hs hl
  go_enter Tryz.func173, Tryz.ntmps173
  go_wp2
  go_loopw [8] (fun i wr => ∃ k : Nat, k ≤ ls.length ∧ i = .int .i64 (k : Int) ∧ Hid (∀ j (hj : j < ls.length), j < k → nameP ls[j] = true) ∧ Bd w wr) (fun i _ => ls.length - (intOf i).toNat)
  case atStart => exact ⟨0, Nat.zero_le _, rfl, fun j _ h => absurd h (by omega), Bd.refl _⟩
  case round =>
    obtain ⟨k, hk, rfl, hall, hb⟩ := hrel
    by_cases hlt : k < ls.length
    · obtain ⟨g, off, rfl, hg, hc⟩ := (HS.out.on hb.b).at_ (k := k) (by rw [toBs_len]; exact hlt)
      have e1 : (toBs ls)[k]'(by rw [toBs_len]; exact hlt) = toB ls[k] := by simp [toBs]
      rw [e1] at hc
      have hz : (toB ls[k]).size ≤ 1000000 := by
        have := HL.out ls[k] (List.getElem_mem _)
        simpa [toB, ByteArray.size] using this
      have C := Lib.hid (wrong_d (toB ls[k]) wr hz)
      cases hd : rightB (toB ls[k]) with
      | false =>
        have hfin : Hid (ls.all nameP = false) := all_no hlt hd
        rw [hd] at C
        have HB := Lib.hid hb
        clear hall hd e1 hz hb
        generalize toB ls[k] = z at *
        go_wp2_with fail
        refine C.out.mono ?_
        rintro e w1 ⟨rfl, hb1⟩
        have HB2 := Lib.hid (HB.out.trans hb1)
        clear hb1
        go_wp2
        go_ret
        exact ⟨k, rfl, by rw [hfin.out]; simp, HB2.out⟩
      | true =>
        have hyes : Hid (∀ j (hj : j < ls.length), j < k + 1 → nameP ls[j] = true) := by
          intro j hj hjk
          by_cases hjk2 : j = k
          · subst hjk2; exact hd
          · exact hall.out j hj (by omega)
        rw [hd] at C
        have HB := Lib.hid hb
        clear hall hd e1 hz hb
        generalize toB ls[k] = z at *
        go_wp2_with fail
        refine C.out.mono ?_
        rintro e w1 ⟨rfl, hb1⟩
        have HB2 := Lib.hid (HB.out.trans hb1)
        clear hb1
        go_wp2
        go_roundw
        case rel => exact ⟨k + 1, by omega, by go_num, hyes, HB2.out⟩
        case measure => simp [intOf]; omega
    · obtain rfl : k = ls.length := by omega
      have hfin : Hid (ls.all nameP = true) := all_yes fun j hj => hall.out j hj hj
      clear hall
      go_wp2
      go_ret
      exact ⟨-1, rfl, by rw [hfin.out]; rfl, hb⟩
theorem containsfunc_d (A : Option Addr) (ls : List (List UInt8)) (cap : Nat) (w : World) (hs : Strs w w.heap.size A (toBs ls)) (hn : ls.length ≤ 1000000) (hl : ∀ x ∈ ls, x.length ≤ 1000000) :
    Calls Tryz.prog 154 #[.slice A ls.length cap, .func (.func 152) #[] #[]] w fun e w' => e = .returned (.bool (!(ls.all nameP))) ∧ Bd w w' := by
  have C := Lib.hid (indexfunc_d A ls cap w hs hn hl)
  clear hs hl
  go_enter Tryz.func154, Tryz.ntmps154
  go_wp2_with fail
  refine C.out.mono ?_
  rintro e w1 ⟨r, rfl, hr, hb⟩
  have HR := Lib.hid hr
  clear hr C
  go_wp2
  go_ret
  rw [← HR.out]
  exact ⟨rfl, hb⟩
set_option maxHeartbeats 1000000 in
set_option maxRecDepth 100000 in
theorem arenames_d (A : Option Addr) (ls : List (List UInt8)) (cap : Nat) (w : World) (hs : Strs w w.heap.size A (toBs ls)) (hn : ls.length ≤ 1000000) (hl : ∀ x ∈ ls, x.length ≤ 1000000) :
    Calls Tryz.prog 125 #[.slice A ls.length cap] w fun e w' => e = .returned (.bool (areB ls)) ∧ Bd w w' := by
  have C := Lib.hid (containsfunc_d A ls cap w hs hn hl)
  unfold areB
  clear hs hl
  by_cases h16 : 16 < ls.length
  · rw [decide_eq_false (show ¬ ls.length ≤ 16 by omega)]
    go_enter Tryz.func125, Tryz.ntmps125
    go_wp2
    go_ret
    exact ⟨rfl, Bd.refl _⟩
  · rw [decide_eq_true (show ls.length ≤ 16 by omega)]
    generalize ls.all nameP = b at *
    go_enter Tryz.func125, Tryz.ntmps125
    go_wp2_with fail
    refine C.out.mono ?_
    rintro e w1 ⟨rfl, hb⟩
    have HB := Lib.hid hb
    clear hb C
    cases b <;> go_wp2 <;> go_ret <;> exact ⟨rfl, HB.out⟩
set_option maxHeartbeats 1000000 in
set_option maxRecDepth 100000 in
theorem split_d (s : ByteArray) (w : World) (hs : s.size ≤ 1000000) : Calls Tryz.prog 84 #[.string s] w (RowLeftD w (pnames s)) := by
  have hsz : s.data.toList.length = s.size := by simp
  unfold pnames
  by_cases h2 : 200 < s.size
  · have hr : Hid (names nameP s.data.toList = []) := names_long (by omega)
    clear hsz
    go_enter Tryz.func84, Tryz.ntmps84
    go_wp2
    go_ret
    rw [hr.out]
    exact ⟨none, 0, rfl, fun _ => rfl, Strs.none_, Bd.refl _⟩
  · obtain ⟨p, hp⟩ : ∃ p, s.data.toList = p := ⟨_, rfl⟩
    have C := Lib.hid (strsplit_any s w (by omega))
    rw [hp] at C hsz ⊢
    obtain ⟨hpl, hpx⟩ := pieces_le p
    have hal : Bd w (w.alloc (.cells ((toBs (pieces p)).map Value.string).toArray 9)) := (Bd.refl _).alloc _
    have HST := Lib.hid ((strs_new w (toBs (pieces p))).more (B' := (w.alloc (.cells ((toBs (pieces p)).map Value.string).toArray 9)).heap.size) (by simp))
    have H200 : Hid (p.length ≤ 200) := by show _ ≤ _; omega
    have HX : Hid (∀ x ∈ pieces p, x.length ≤ 1000000) := fun x hx => by have := hpx x hx; omega
    have HL : Hid ((pieces p).length ≤ 1000000) := by show _ ≤ _; omega
    have HA := Lib.hid hal
    obtain ⟨q, hq⟩ : ∃ q, pieces p = q := ⟨_, rfl⟩
    have HQ := Lib.hid hq
    rw [hq] at C HST HX HL HA
    have hql := HL.out
    clear hal hpx hpl hp hsz hq
    have CF := Lib.hid (arenames_d (some ⟨w.heap.size, 0, none⟩) q q.length _ HST.out HL.out HX.out)
    cases hall : areB q with
    | false =>
      have hr : Hid (names nameP p = []) := by
        show _ = _
        unfold names
        rw [if_neg]
        rintro ⟨_, h, h'⟩
        rw [HQ.out] at h h'
        unfold areB at hall
        rw [h, decide_eq_true h'] at hall
        cases hall
      rw [hall] at CF
      clear hall
      go_enter Tryz.func84, Tryz.ntmps84
      go_wp2_with fail
      refine C.out.mono ?_
      rintro e w1 ⟨rfl, rfl⟩
      go_wp2_with fail
      refine CF.out.mono ?_
      rintro e w2 ⟨rfl, hb⟩
      have HB := Lib.hid (HA.out.trans hb)
      clear hb
      go_wp2
      go_ret
      rw [hr.out]
      exact ⟨none, 0, rfl, fun _ => rfl, Strs.none_, HB.out⟩
    | true =>
      have hr : Hid (names nameP p = q) := by
        show _ = _
        unfold names
        unfold areB at hall
        simp only [Bool.and_eq_true, decide_eq_true_eq] at hall
        rw [if_pos, HQ.out]
        rw [HQ.out]
        exact ⟨H200.out, hall.2, hall.1⟩
      rw [hall] at CF
      clear hall
      go_enter Tryz.func84, Tryz.ntmps84
      go_wp2_with fail
      refine C.out.mono ?_
      rintro e w1 ⟨rfl, rfl⟩
      go_wp2_with fail
      refine CF.out.mono ?_
      rintro e w2 ⟨rfl, hb⟩
      have HB := Lib.hid (HA.out.trans hb)
      have HS2 := Lib.hid (HST.out.on hb.b)
      clear hb
      go_wp2
      go_ret
      rw [hr.out]
      exact ⟨some ⟨w.heap.size, 0, none⟩, q.length, rfl, fun h => (by cases h), HS2.out, HB.out⟩
set_option maxHeartbeats 2000000 in
set_option maxRecDepth 100000 in
theorem less_d (s t : ByteArray) (w : World) (hs : s.size ≤ 100000) (ht : t.size ≤ 100000) : Calls Tryz.prog 51 #[.string s, .string t] w fun e w' => e = .returned (.bool (lessP nameP s.data.toList t.data.toList)) ∧ Bd w w' := by
  rw [less_or nameP s.data.toList t.data.toList _ (compareBytes_lt _ _)]
  obtain ⟨d, hd⟩ : ∃ d, Lib.compareBytes s.data.toList t.data.toList = d := ⟨_, rfl⟩
  obtain ⟨c, hc⟩ : ∃ c, cmpL (pnames s) (pnames t) = c := ⟨_, rfl⟩
  rw [show cmpL (names nameP s.data.toList) (names nameP t.data.toList) = c from hc, hd]
  obtain ⟨z, hz⟩ : ∃ z, (if c = 0 then d else c) = z := ⟨_, rfl⟩
  rw [hz]
  have CA := Lib.hid (fun w => split_d s w (by omega))
  have CB := Lib.hid (fun w => split_d t w (by omega))
  have CS := Lib.hid (strcompare_any s t d hd)
  have hn1 := pnames_len s
  have hn2 := pnames_len t
  have HC := Lib.hid hc
  have HZ := Lib.hid hz
  generalize pnames s = l1 at *
  generalize pnames t = l2 at *
  clear hd hc hz
  go_enter Tryz.func51, Tryz.ntmps51
  go_wp2_with fail
  refine (CA.out _).mono ?_
  rintro e w1 ⟨A1, k1, rfl, hA1, hs1, hb1⟩
  have HB1 := Lib.hid hb1
  have S1 := Lib.hid hs1
  clear hb1 hs1 hA1
  go_wp2_with fail
  refine (CB.out _).mono ?_
  rintro e w2 ⟨A2, k2, rfl, hA2, hs2, hb2⟩
  have HB2 := Lib.hid (HB1.out.trans hb2)
  have S2 := Lib.hid hs2
  have S1 := Lib.hid (S1.out.on hb2.b)
  clear hb2 hs2 hA2 HB1
  have CC := Lib.hid (scompare_any A1 A2 l1 l2 k1 k2 w2 c HC.out S1.out S2.out (by omega) (by omega))
  go_wp2_with fail
  refine CC.out.mono ?_
  rintro e w3 ⟨rfl, rfl⟩
  go_wp2_with fail
  refine (CS.out _).mono ?_
  rintro e w4 ⟨rfl, rfl⟩
  clear CC CS
  have CO := Lib.hid (fun ty => or_any w4.heap.size c d z (w4.alloc (.cells #[.int .i64 c, .int .i64 d] ty)) (by rw [World.cell?_alloc_new]; rfl) (by rw [World.cell?_alloc_new]; rfl) HZ.out.symm)
  have HA := Lib.hid (fun ty => HB2.out.trans ((Bd.refl _).alloc (.cells #[.int .i64 c, .int .i64 d] ty)))
  go_wp2_with fail
  refine (CO.out _).mono ?_
  rintro e w5 ⟨rfl, rfl⟩
  go_wp2
  go_ret
  exact ⟨rfl, HA.out _⟩
set_option maxHeartbeats 2000000 in
set_option maxRecDepth 100000 in
theorem bypath_d (p q : ByteArray) (d d2 : Bool) (a a2 : Option Addr) (n n2 c c2 : Nat) (w : World) (hp : p.size ≤ 100000) (hq : q.size ≤ 100000) (r : Int) (hr : cmpP p q = r) :
    Calls Tryz.prog 33 #[.agg #[.string p, .bool d, .slice a n c], .agg #[.string q, .bool d2, .slice a2 n2 c2]] w fun e w' => e = .returned (.int .i64 r) ∧ Bd w w' := by
  have hal : Bd w ((w.alloc (.cells #[.string p, .bool d, .slice a n c] 62)).alloc (.cells #[.string q, .bool d2, .slice a2 n2 c2] 62)) := ((Bd.refl _).alloc _).alloc _
  have HA := Lib.hid hal
  have C := Lib.hid (less_d p q ((w.alloc (.cells #[.string p, .bool d, .slice a n c] 62)).alloc (.cells #[.string q, .bool d2, .slice a2 n2 c2] 62)) hp hq)
  unfold cmpP at hr
  clear hal
  by_cases h0 : p = q
  · rw [if_pos h0] at hr
    subst hr
    have hs : (p.toList == q.toList) = true := by rw [str_beq]; exact decide_eq_true h0
    clear h0 C
    go_enter Tryz.func33, Tryz.ntmps33
    go_wp2
    go_ret
    exact ⟨rfl, HA.out⟩
  · rw [if_neg h0] at hr
    have hs : (p.toList == q.toList) = false := str_ne h0
    cases hl : lessP nameP p.data.toList q.data.toList with
    | true =>
      rw [hl, if_pos rfl] at hr
      subst hr
      rw [hl] at C
      clear h0 hl
      go_enter Tryz.func33, Tryz.ntmps33
      go_wp2_with fail
      refine C.out.mono ?_
      rintro e w1 ⟨rfl, hb1⟩
      have HB := Lib.hid (HA.out.trans hb1)
      clear hb1
      go_wp2
      go_ret
      exact ⟨rfl, HB.out⟩
    | false =>
      rw [hl, if_neg (by simp)] at hr
      subst hr
      rw [hl] at C
      clear h0 hl
      go_enter Tryz.func33, Tryz.ntmps33
      go_wp2_with fail
      refine C.out.mono ?_
      rintro e w1 ⟨rfl, hb1⟩
      have HB := Lib.hid (HA.out.trans hb1)
      clear hb1
      go_wp2
      go_ret
      exact ⟨rfl, HB.out⟩
end Go.Proofs.YtalabahjfmcnbaaGreatDoor
