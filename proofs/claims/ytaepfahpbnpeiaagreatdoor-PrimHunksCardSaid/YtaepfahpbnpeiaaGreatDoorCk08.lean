/- Package path's Less: slices.Compare of names, strings.Compare, cmp.Or. Package path's Less, Ups, Join. The reference's Same and Without of layer 6. The reference's Without of layer 6. -/
import Derived.Test.YtaepfahpbnpeiaaGreatDoorCk07
import Derived.Laws.Cover1
import Derived.Sort.OwnSorted
import Derived.Test.YtaepfahpbnpeiaaGreatDoorCk06
import Derived.Test.YtaepfahpbnpeiaaGreatDoorCk05
namespace Go.Proofs.YtaepfahpbnpeiaaGreatDoor
open Go.RowKit
set_option linter.unusedVariables false

theorem compareBytes_lt : ∀ (a b : List UInt8), Lib.compareBytes a b < 0 ↔ a < b
  | [], [] => by simp [Lib.compareBytes]
  | [], _ :: _ => by simp [Lib.compareBytes]
  | _ :: _, [] => by simp [Lib.compareBytes]
  | a :: l, b :: m => by
    have ih := compareBytes_lt l m
    unfold Lib.compareBytes
    rw [List.cons_lt_cons_iff]
    by_cases h : a < b
    · simp [h]
    · by_cases k : b < a
      · have : a ≠ b := by rintro rfl; exact h k
        simp [h, k, this]
      · have : a = b := UInt8.le_antisymm (UInt8.not_lt.1 k) (UInt8.not_lt.1 h)
        simp [this, ih]
def cmpB (x y : List UInt8) : Int := if x = y then 0 else if x < y then -1 else 1
set_option maxHeartbeats 1000000 in
theorem cmpstr_any (s t : ByteArray) (x y : List UInt8) (hx : s.data.toList = x) (hy : t.data.toList = y) (w : World) :
    Calls Tryz.prog 113 #[.string s, .string t] w fun e w' => e = .returned (.int .i64 (cmpB x y)) ∧ w' = w := by
  have h1 : (s.toList == s.toList) = true := by simp
  have h2 : (t.toList == t.toList) = true := by simp
  have N1 : ∀ (z : ByteArray) w, Calls Tryz.prog 124 #[.string z] w fun e w' => e = .returned (.bool false) ∧ w' = w := by
    intro z w
    have h1 : (z.toList == z.toList) = true := by simp
    go_enter Tryz.func124, Tryz.ntmps124
    go_wp2
    go_ret
    exact ⟨rfl, rfl⟩
  have HN := Lib.hid N1
  have b1 : Op.bytesLess s.toList t.toList = decide (x < y) := by rw [bless_eqs, hx, hy]
  have b2 : Op.bytesLess t.toList s.toList = decide (y < x) := by rw [bless_eqs, hx, hy]
  have b3 : (s.toList == t.toList) = decide (x = y) := by
    rw [Bool.eq_iff_iff, beq_iff_eq, decide_eq_true_eq, toList_eq, toList_eq, hx, hy]
  clear N1 h1 h2
  rcases tri x y with h | h | h
  · have e : cmpB x y = -1 := by
      unfold cmpB
      rw [if_neg (by rintro rfl; exact List.lt_irrefl _ h), if_pos h]
    rw [e]
    rw [decide_eq_true h] at b1
    clear e b2 b3 hx hy h
    go_enter Tryz.func113, Tryz.ntmps113
    go_wp2_with fail
    refine (HN.out _ _).mono ?_
    rintro e w1 ⟨rfl, rfl⟩
    go_wp2_with fail
    refine (HN.out _ _).mono ?_
    rintro e w1 ⟨rfl, rfl⟩
    go_wp2
    go_ret
    exact ⟨rfl, rfl⟩
  · have e : cmpB x y = 0 := if_pos h
    rw [e]
    subst h
    rw [decide_eq_false (List.lt_irrefl _)] at b1 b2
    rw [decide_eq_true rfl] at b3
    clear e hx hy
    go_enter Tryz.func113, Tryz.ntmps113
    go_wp2_with fail
    refine (HN.out _ _).mono ?_
    rintro e w1 ⟨rfl, rfl⟩
    go_wp2_with fail
    refine (HN.out _ _).mono ?_
    rintro e w1 ⟨rfl, rfl⟩
    go_wp2
    go_ret
    exact ⟨rfl, rfl⟩
  · have e : cmpB x y = 1 := by
      unfold cmpB
      rw [if_neg (by rintro rfl; exact List.lt_irrefl _ h), if_neg (fun k => List.lt_irrefl _ (List.lt_trans h k))]
    rw [e]
    rw [decide_eq_false (fun k => List.lt_irrefl _ (List.lt_trans h k))] at b1
    rw [decide_eq_true h] at b2
    rw [decide_eq_false (by rintro rfl; exact List.lt_irrefl _ h)] at b3
    clear e hx hy h
    go_enter Tryz.func113, Tryz.ntmps113
    go_wp2_with fail
    refine (HN.out _ _).mono ?_
    rintro e w1 ⟨rfl, rfl⟩
    go_wp2_with fail
    refine (HN.out _ _).mono ?_
    rintro e w1 ⟨rfl, rfl⟩
    go_wp2
    go_ret
    exact ⟨rfl, rfl⟩
set_option maxHeartbeats 1000000 in
set_option maxRecDepth 100000 in
theorem or_any (b : Nat) (x y z : Int) (w : World) (h0 : w.cell? ⟨b, 0, none⟩ = some (.int .i64 x)) (h1 : w.cell? ⟨b, 1, none⟩ = some (.int .i64 y)) (hz : z = if x = 0 then y else x) :
    Calls Tryz.prog 91 #[.slice (some ⟨b, 0, none⟩) 2 2] w fun e w' => e = .returned (.int .i64 z) ∧ w' = w := by
  go_enter Tryz.func91, Tryz.ntmps91
  go_wp2
  go_loopw [8] (fun i wr => ∃ k : Nat, k ≤ 2 ∧ i = .int .i64 (k : Int) ∧ Hid ((1 ≤ k → x = 0) ∧ (2 ≤ k → y = 0)) ∧ wr = w) (fun i _ => 2 - (intOf i).toNat)
  case atStart => exact ⟨0, by omega, rfl, ⟨fun h => by omega, fun h => by omega⟩, rfl⟩
  case round =>
    obtain ⟨k, hk, rfl, hxy, rfl⟩ := hrel
    have hk3 : k = 0 ∨ k = 1 ∨ k = 2 := by omega
    rcases hk3 with rfl | rfl | rfl
    · by_cases hx : x = 0
      · subst hx
        clear hz h1 hxy
        go_wp2
        go_roundw
        case rel => exact ⟨1, by omega, by go_num, ⟨fun _ => by first | rfl | trivial, fun h => by omega⟩, by first | rfl | trivial⟩
        case measure => simp [intOf] <;> omega
      · have e : z = x := by rw [hz, if_neg hx]
        subst e
        have hb : (z == 0) = false := by simpa using hx
        have hb2 : (z != 0) = true := by simpa using hx
        clear hz h1 hxy
        go_wp2
        go_ret
        exact ⟨rfl, rfl⟩
    · have hx := hxy.out.1 (by omega)
      have e : z = y := by rw [hz, if_pos hx]
      subst e
      by_cases hy : z = 0
      · subst hy
        clear hz h0 hxy
        go_wp2
        go_roundw
        case rel => exact ⟨2, by omega, by go_num, ⟨fun _ => hx, fun h => by first | rfl | trivial⟩, by first | rfl | trivial⟩
        case measure => simp [intOf] <;> omega
      · have hb : (z == 0) = false := by simpa using hy
        have hb2 : (z != 0) = true := by simpa using hy
        clear hz h0 hxy
        go_wp2
        go_ret
        exact ⟨rfl, rfl⟩
    · have hx := hxy.out.1 (by omega)
      have hy := hxy.out.2 (by omega)
      have e : z = 0 := by rw [hz, if_pos hx, hy]
      subst e
      clear hz h0 h1 hxy
      go_wp2
      go_ret
      exact ⟨rfl, rfl⟩

theorem cmpB_lt (x y : List UInt8) : cmpB x y = 0 ↔ x = y := by
  unfold cmpB
  by_cases h : x = y
  · simp [h]
  · by_cases k : x < y <;> simp [h, k]
theorem cmpL_next {a b : List (List UInt8)} {i : Nat} (ha : i < a.length) (hb : i < b.length) : cmpL (a.drop i) (b.drop i) = if cmpB a[i] b[i] = 0 then cmpL (a.drop (i + 1)) (b.drop (i + 1)) else cmpB a[i] b[i] := by
  rw [cmpL_step ha hb]
  unfold cmpB
  by_cases h : a[i] = b[i]
  · simp [h]
  · by_cases k : a[i] < b[i] <;> simp [h, k]
set_option maxHeartbeats 1000000 in
set_option maxRecDepth 100000 in
theorem scompare_any (A A2 : Option Addr) (la lb : List (List UInt8)) (cap cap2 : Nat) (w : World) (c : Int) (hc : cmpL la lb = c) (hs : Strs w w.heap.size A (toBs la)) (ht : Strs w w.heap.size A2 (toBs lb)) (hn : la.length ≤ 1000000) (hn2 : lb.length ≤ 1000000) :
    Calls Tryz.prog 92 #[.slice A la.length cap, .slice A2 lb.length cap2] w fun e w' => e = .returned (.int .i64 c) ∧ w' = w := by
  have HS := Lib.hid hs
  have HT := Lib.hid ht
  have HC := Lib.hid hc
  clear hs ht hc
  go_enter Tryz.func92, Tryz.ntmps92
  go_wp2
  go_loopw [11] (fun i wr => ∃ k : Nat, k ≤ la.length ∧ i = .int .i64 (k : Int) ∧ Hid (k ≤ lb.length ∧ cmpL (la.drop k) (lb.drop k) = c) ∧ wr = w) (fun i _ => la.length - (intOf i).toNat)
  case atStart => exact ⟨0, by omega, rfl, ⟨Nat.zero_le _, HC.out⟩, rfl⟩
  case round =>
    obtain ⟨k, hk, rfl, hck, rfl⟩ := hrel
    obtain ⟨hkb, hcc⟩ := hck.out
    by_cases hlt : k < la.length
    · obtain ⟨g, off, rfl, hg, hcell⟩ := HS.out.at_ (k := k) (by rw [toBs_len]; exact hlt)
      have e1 : (toBs la)[k]'(by rw [toBs_len]; exact hlt) = toB la[k] := by simp [toBs]
      rw [e1] at hcell
      by_cases hlt2 : k < lb.length
      · obtain ⟨g2, off2, rfl, hg2, hcell2⟩ := HT.out.at_ (k := k) (by rw [toBs_len]; exact hlt2)
        have e2 : (toBs lb)[k]'(by rw [toBs_len]; exact hlt2) = toB lb[k] := by simp [toBs]
        rw [e2] at hcell2
        have hnx := cmpL_next hlt hlt2
        rw [hcc] at hnx
        have CC := Lib.hid (fun w => cmpstr_any (toB la[k]) (toB lb[k]) la[k] lb[k] (of_toB _) (of_toB _) w)
        obtain ⟨d, hd⟩ : ∃ d, cmpB la[k] lb[k] = d := ⟨_, rfl⟩
        rw [hd] at CC hnx
        have hq : ¬ ((lb.length : Int) ≤ (k : Int)) := by omega
        by_cases h0 : d = 0
        · subst h0
          rw [if_pos rfl] at hnx
          have hck2 : Hid (k + 1 ≤ lb.length ∧ cmpL (la.drop (k + 1)) (lb.drop (k + 1)) = c) := ⟨by omega, hnx.symm⟩
          generalize toB la[k] = x at *
          generalize toB lb[k] = y at *
          clear hck hkb hcc hnx hd e1 e2 hlt2
          go_wp2_with fail
          refine (CC.out _).mono ?_
          rintro e w1 ⟨rfl, rfl⟩
          go_wp2
          go_roundw
          case rel => exact ⟨k + 1, by omega, by go_num, hck2, by first | rfl | trivial⟩
          case measure => simp [intOf] <;> omega
        · rw [if_neg h0] at hnx
          subst hnx
          have hb : (c == 0) = false := by simpa using h0
          generalize toB la[k] = x at *
          generalize toB lb[k] = y at *
          clear hck hkb hcc hd e1 e2 hlt2
          go_wp2_with fail
          refine (CC.out _).mono ?_
          rintro e w1 ⟨rfl, rfl⟩
          go_wp2
          go_ret
          exact ⟨rfl, rfl⟩
      · have hq : ((lb.length : Int) ≤ (k : Int)) := by omega
        have e0 : lb.drop k = [] := List.drop_eq_nil_of_le (by omega)
        have hcf : c = 1 := by
          rw [← hcc, e0, List.drop_eq_getElem_cons hlt]
          rfl
        subst hcf
        clear hck hkb hcc e0 e1 hlt2
        go_wp2
        go_ret
        exact ⟨rfl, rfl⟩
    · obtain rfl : k = la.length := by omega
      have e0 : la.drop la.length = [] := List.drop_length
      rw [e0] at hcc
      by_cases hlt2 : la.length < lb.length
      · have hcf : c = -1 := by
          rw [← hcc, List.drop_eq_getElem_cons hlt2]
          rfl
        subst hcf
        have hq : (la.length : Int) < (lb.length : Int) := by omega
        clear hck hkb hcc e0 hlt2 hlt
        go_wp2
        go_ret
        exact ⟨rfl, rfl⟩
      · have hcf : c = 0 := by
          rw [← hcc, List.drop_eq_nil_of_le (by omega)]
          rfl
        subst hcf
        have hq : ¬ (la.length : Int) < (lb.length : Int) := by omega
        clear hck hkb hcc e0 hlt2 hlt
        go_wp2
        go_ret
        exact ⟨rfl, rfl⟩
end Go.Proofs.YtaepfahpbnpeiaaGreatDoor
namespace Go.Proofs.YtaepfahpbnpeiaaGreatDoor
open Go.RowKit
set_option linter.unusedVariables false

theorem strcompare_any (s t : ByteArray) (c : Int) (hc : Lib.compareBytes s.data.toList t.data.toList = c) (w : World) :
    Calls Tryz.prog 94 #[.string s, .string t] w fun e w' => e = .returned (.int .i64 c) ∧ w' = w := by
  have h := Tryz.strings_Compare s t w
  rwa [hc] at h
theorem pnames_len (s : ByteArray) : (pnames s).length ≤ 16 := by
  unfold pnames names
  split
  · rename_i h; exact h.2.2
  · simp
set_option maxHeartbeats 2000000 in
set_option maxRecDepth 100000 in
theorem less_c : LessC := by
  intro s t w hs ht
  rw [less_or nameP s.data.toList t.data.toList _ (compareBytes_lt _ _)]
  obtain ⟨d, hd⟩ : ∃ d, Lib.compareBytes s.data.toList t.data.toList = d := ⟨_, rfl⟩
  obtain ⟨c, hc⟩ : ∃ c, cmpL (pnames s) (pnames t) = c := ⟨_, rfl⟩
  rw [show cmpL (names nameP s.data.toList) (names nameP t.data.toList) = c from hc, hd]
  obtain ⟨z, hz⟩ : ∃ z, (if c = 0 then d else c) = z := ⟨_, rfl⟩
  rw [hz]
  have CA := Lib.hid (fun w => split_any s w (by omega))
  have CB := Lib.hid (fun w => split_any t w (by omega))
  have CS := Lib.hid (strcompare_any s t d hd)
  have hn1 := pnames_len s
  have hn2 := pnames_len t
  have HC := Lib.hid hc
  have HZ := Lib.hid hz
  generalize pnames s = l1 at *
  generalize pnames t = l2 at *
  clear hd hc hz
  go_enter Tryz.func56, Tryz.ntmps56
  go_wp2_with fail
  refine (CA.out _).mono ?_
  rintro e w1 ⟨A1, k1, rfl, hA1, hs1, hb1⟩
  have HB1 := Lib.hid hb1
  have S1 := Lib.hid hs1
  clear hb1 hs1 hA1
  go_wp2_with fail
  refine (CB.out _).mono ?_
  rintro e w2 ⟨A2, k2, rfl, hA2, hs2, hb2⟩
  have HB2 := Lib.hid (HB1.out.trans (hb2.mono HB1.out.size))
  have S2 := Lib.hid hs2
  have S1 := Lib.hid (S1.out.on hb2)
  clear hb2 hs2 hA2 HB1
  have CC := Lib.hid (scompare_any A1 A2 l1 l2 k1 k2 w2 c HC.out S1.out S2.out (by omega) (by omega))
  go_wp2_with fail
  refine CC.out.mono ?_
  rintro e w3 ⟨rfl, rfl⟩
  go_wp2_with fail
  refine (CS.out _).mono ?_
  rintro e w4 ⟨rfl, rfl⟩
  clear CC CS
  have CO := Lib.hid (fun ty => or_any w4.heap.size c d z (w4.alloc (.cells #[.int .i64 c, .int .i64 d] ty)) (by rw [World.cell?_alloc_new]; rfl) (by rw [World.cell?_alloc_new]; rfl) HZ.out.symm)
  have HA := Lib.hid (fun ty => HB2.out.trans (((Below.refl _ _).alloc (Nat.le_refl _) (.cells #[.int .i64 c, .int .i64 d] ty) : Below w4.heap.size w4 _).mono HB2.out.size))
  go_wp2_with fail
  refine (CO.out _).mono ?_
  rintro e w5 ⟨rfl, rfl⟩
  go_wp2
  go_ret
  exact ⟨rfl, HA.out _⟩

theorem putRow_under {B : Nat} {w0 w : World} {g q : Nat} {d : Array (List UInt8)} (h : Below B w0 w) (hg : B ≤ g) : Below B w0 (Sort.putRow encStr (Sort.ahead w q) g 0 d) := Lib.below_putRow h hg
theorem joined_le {p : List UInt8} (m : Nat) : (joinB ((names nameP p).take m)).length ≤ 200 := by
  by_cases h : names nameP p = []
  · rw [h]; simp [joinB]
  · have h1 := join_take_le (names nameP p) m
    rw [join_names nameP h] at h1
    have := (names_pieces nameP h).2.1
    omega
def lenV : Value → Nat
  | .slice _ k _ => k
  | _ => 0
end Go.Proofs.YtaepfahpbnpeiaaGreatDoor
namespace Go.Proofs.YtaepfahpbnpeiaaGreatDoor
open Go.RowKit
set_option linter.unusedVariables false

theorem rsame_d (A A2 : Option Addr) (la lc : List (List UInt8)) (cap cap2 : Nat) (w : World) (d : Bool) (hd : decide (la = lc) = d) (hs : Strs w w.heap.size A (toBs la)) (ht : Strs w w.heap.size A2 (toBs lc)) (hn : la.length ≤ 1000000) (hn2 : lc.length ≤ 1000000) (n : Nat) :
    Calls Tryz.prog 24 #[.slice A la.length cap, .slice A2 lc.length cap2] (w.drewN n) fun e w' => e = .returned (.bool d) ∧ ∃ m, w' = w.drewN m :=
  Calls.quiet_of (rsame_l A A2 la lc cap cap2 (w.drewN n) d hd hs ht hn hn2)
/-- No file has too many lines. -/
def Short (fs : List Fm) : Prop := fs.length ≤ 1000000 ∧ ∀ f ∈ fs, f.ls.length ≤ 1000000

set_option maxHeartbeats 2000000 in
set_option maxRecDepth 100000 in
theorem refsamef_any (A A2 : Option Addr) (hs ks : List Fm) (cap cap2 : Nat) (w : World) (d : Bool) (hd : decide (fkeys hs = fkeys ks) = d) (hk : Fs w w.heap.size A hs) (gk : Fs w w.heap.size A2 ks) (hn : Short hs) (gn : Short ks) :
    Calls Tryz.prog 13 #[.slice A hs.length cap, .slice A2 ks.length cap2] w fun e w' => e = .returned (.bool d) ∧ ∃ q, w' = w.drewN q := by
  have HN := hn.1
  have GN := gn.1
  have HD := Lib.hid hd
  clear hd
  by_cases hl : hs.length = ks.length
  · have Hl := Lib.hid hl
    have hb1 : (((hs.length : Int)) != (ks.length : Int)) = false := by simp; omega
    have HK := Lib.hid hk
    have GK := Lib.hid gk
    have HS := Lib.hid hn.2
    have GS := Lib.hid gn.2
    clear hl hk gk hn gn
    go_enter Tryz.func13, Tryz.ntmps13
    go_wp2
    go_loopw [5] (fun i wr => ∃ k : Nat, k ≤ hs.length ∧ i = .int .i64 (k : Int) ∧ Hid (∀ j (hj : j < hs.length) (hj2 : j < ks.length), j < k → hs[j].key = ks[j].key) ∧ Hid (∃ q, wr = w.drewN q)) (fun i _ => hs.length - (intOf i).toNat)
    case atStart => exact ⟨0, Nat.zero_le _, rfl, fun j _ _ h => absurd h (by omega), 0, rfl⟩
    case round =>
      obtain ⟨k, hk, rfl, hall, hq⟩ := hrel
      have hb : Below w.heap.size w wr := by obtain ⟨q, rfl⟩ := hq.out; exact below_drewN (Below.refl _ _) q
      by_cases hlt : k < hs.length
      · have hlt2 : k < ks.length := by have := Hl.out; omega
        have hK := HK.out.on hb
        have gK := GK.out.on hb
        obtain ⟨b, off, rfl, _, h1, h2, h3⟩ := hK.get hlt
        obtain ⟨b2, off2, rfl, _, g1, g2, g3⟩ := gK.get hlt2
        have ok := hK.ok hs[k] (List.getElem_mem _)
        have ok2 := gK.ok ks[k] (List.getElem_mem _)
        have s1 := HS.out hs[k] (List.getElem_mem _)
        have s3 := GS.out ks[k] (List.getElem_mem _)
        have CO := Lib.hid (rsame_d hs[k].a ks[k].a hs[k].ls ks[k].ls hs[k].c ks[k].c wr _ rfl ok.ls ok2.ls s1 s3)
        have hno : Hid (¬ (hs[k].key = ks[k].key) → d = false) := by
          intro hne
          rw [← HD.out, decide_eq_false_iff_not]
          intro e
          have e2 := congrArg (fun l => l[k]?) e
          simp only [fkeys, List.getElem?_map, List.getElem?_eq_getElem hlt, List.getElem?_eq_getElem hlt2, Option.map_some, Option.some.injEq] at e2
          exact hne e2
        have hyes : Hid (hs[k].key = ks[k].key → ∀ j (hj : j < hs.length) (hj2 : j < ks.length), j < k + 1 → hs[j].key = ks[j].key) := by
          intro he j hj hj2 hjk
          by_cases hjk2 : j = k
          · subst hjk2; exact he
          · exact hall.out j hj hj2 (by omega)
        have key : Hid ((hs[k].key = ks[k].key) = (hs[k].p = ks[k].p ∧ hs[k].d = ks[k].d ∧ hs[k].ls = ks[k].ls)) := by
          show _ = _
          simp only [Fm.key, Prod.mk.injEq]
          refine propext ⟨fun h => ⟨bytes_inj h.1, h.2⟩, fun h => ⟨by rw [h.1], h.2⟩⟩
        rw [key.out] at hno hyes
        clear hall ok ok2 key hK gK s1 s3
        generalize hs[k].p = n at *
        generalize ks[k].p = n2 at *
        generalize hs[k].d = o1 at *
        generalize ks[k].d = o2 at *
        generalize hs[k].ls = e1 at *
        generalize ks[k].ls = e2 at *
        generalize hs[k].a = x1 at *
        generalize hs[k].c = x3 at *
        generalize ks[k].a = y1 at *
        generalize ks[k].c = y3 at *
        have fin : ∀ m, Hid (∃ q, wr.drewN m = w.drewN q) := by
          obtain ⟨q, rfl⟩ := hq.out
          exact fun m => ⟨q + m, World.drewN_drewN _ _ _⟩
        by_cases ha : n = n2
        · subst ha
          have w1 : (n.toList == n.toList) = true := by simp
          by_cases ho : o1 = o2
          · subst ho
            have w2 : (o1 == o1) = true := by simp
            by_cases he : e1 = e2
            · rw [decide_eq_true he] at CO
              have hnew := Lib.hid (hyes.out ⟨rfl, rfl, he⟩)
              clear hno hyes he hq
              go_wp2
              go_quiet ((go_at_call 24; exact CO.out _))
              go_wp2
              go_roundw
              case rel => exact ⟨k + 1, by omega, by go_num, hnew, (fin _).out⟩
              case measure => simp [intOf]; omega
            · rw [decide_eq_false he] at CO
              have hfin := Lib.hid (hno.out fun h => he h.2.2)
              clear hno hyes he hq
              go_wp2
              go_quiet ((go_at_call 24; exact CO.out _))
              go_wp2
              go_ret
              rw [hfin.out]
              exact ⟨rfl, (fin _).out⟩
          · have hfin := Lib.hid (hno.out fun h => ho h.2.1)
            have w2 : (o1 == o2) = false := by simpa using ho
            have w3 : (o1 != o2) = true := by simpa using ho
            clear hno hyes hq CO
            go_wp2
            go_quiet (fail)
            go_wp2
            go_ret
            rw [hfin.out]
            exact ⟨rfl, (fin _).out⟩
        · have hfin := Lib.hid (hno.out fun h => ha h.1)
          have w1 := str_ne ha
          clear hno hyes hq CO
          go_wp2
          go_quiet (fail)
          go_wp2
          go_ret
          rw [hfin.out]
          exact ⟨rfl, (fin _).out⟩
      · have hk2 : k = hs.length := by omega
        subst hk2
        have hyes : Hid (d = true) := by
          show _ = _
          rw [← HD.out, decide_eq_true_eq]
          refine List.ext_getElem (by simp [fkeys]; exact Hl.out) fun j h1 h2 => ?_
          simp only [fkeys, List.getElem_map]
          simp only [fkeys, List.length_map] at h1 h2
          exact hall.out j h1 h2 h1
        clear hall
        go_wp2
        go_ret
        rw [hyes.out]
        exact ⟨rfl, hq.out⟩
  · have hno : Hid (d = false) := by
      show _ = _
      rw [← HD.out, decide_eq_false_iff_not]
      intro h
      have := congrArg List.length h
      simp [fkeys] at this
      exact hl this
    have hb1 : (((hs.length : Int)) != (ks.length : Int)) = true := by simp; omega
    clear hk gk
    go_enter Tryz.func13, Tryz.ntmps13
    go_wp2
    go_ret
    rw [hno.out]
    exact ⟨rfl, 0, rfl⟩
end Go.Proofs.YtaepfahpbnpeiaaGreatDoor
namespace Go.Proofs.YtaepfahpbnpeiaaGreatDoor
open Go.RowKit
set_option linter.unusedVariables false

def withoutF (fs : List Fm) (p : ByteArray) : List Fm := fs.filter fun f => decide (f.p ≠ p)
theorem without_take (fs : List Fm) (p : ByteArray) (k : Nat) (h : k < fs.length) : withoutF (fs.take (k + 1)) p = withoutF (fs.take k) p ++ if fs[k].p ≠ p then [fs[k]] else [] := by
  unfold withoutF
  rw [List.take_succ_eq_append_getElem h, List.filter_append]
  congr 1
  by_cases hp : fs[k].p = p <;> simp [hp]
theorem without_len (fs : List Fm) (p : ByteArray) : (withoutF fs p).length ≤ fs.length := List.length_filter_le _ _

set_option maxHeartbeats 2000000 in
set_option maxRecDepth 100000 in
theorem refwithout_any (A : Option Addr) (fs : List Fm) (cap : Nat) (p : ByteArray) (w : World) (hs : Fs w w.heap.size A fs) (hn : fs.length ≤ 100000) :
    Calls Tryz.prog 63 #[.slice A fs.length cap, .string p] w (RowF w (withoutF fs p)) := by
  have HS := Lib.hid hs
  clear hs
  go_enter Tryz.func63, Tryz.ntmps63
  go_wp2
  go_loopw [5, 6] (fun v i wr => ∃ (k m : Nat) (A : Option Addr) (c : Nat), k ≤ fs.length ∧ v = .slice A m c ∧ i = .int .i64 (k : Int) ∧ Hid (OwnF wr w.heap.size (.slice A m c) (withoutF (fs.take k) p)) ∧ Hid (Below w.heap.size w wr)) (fun _ i _ => fs.length - (intOf i).toNat)
  case atStart => exact ⟨0, 0, none, 0, Nat.zero_le _, rfl, rfl, OwnF.nil _ _, Below.refl _ _⟩
  case round =>
    obtain ⟨k, m, A5, c5, hk, rfl, rfl, hown, hb⟩ := hrel
    by_cases hlt : k < fs.length
    · obtain ⟨b, off, rfl, hbb, c0, c1, c2⟩ := (HS.out.on hb.out).get hlt
      have htk := without_take fs p k hlt
      by_cases he : fs[k].p = p
      · rw [if_neg (by simp [he]), List.append_nil] at htk
        have hown2 : Hid (OwnF wr w.heap.size (.slice A5 m c5) (withoutF (fs.take (k + 1)) p)) := by show OwnF _ _ _ _; rw [htk]; exact hown.out
        have hbe : (p.toList == p.toList) = true := by simp
        rw [he] at c0
        clear htk hown he c1 c2
        go_wp2
        go_roundw
        case rel => exact ⟨k + 1, m, A5, c5, by omega, rfl, by go_num, hown2, hb⟩
        case measure => simp [intOf]; omega
      · rw [if_pos he] at htk
        have HTK := Lib.hid htk
        have hbe := str_ne he
        have hal : Below wr.heap.size wr (wr.alloc (.cells fs[k].cells.toArray 49)) := (Below.refl _ _).alloc (Nat.le_refl _) _
        have HO := Lib.hid (hown.out.kept hal)
        have HC := Lib.hid (FileAt.new_ wr fs[k]).cells
        have HBA := Lib.hid (hb.out.trans (hal.mono hb.out.size))
        have hbs : w.heap.size ≤ (wr.alloc (.cells fs[k].cells.toArray 49)).heap.size := HBA.out.size
        have hle : Hid ((withoutF (fs.take k) p).length + [fs[k]].length ≤ 1000000) := by
          show _ ≤ _
          have := without_len (fs.take k) p
          rw [List.length_take] at this
          simp only [List.length_cons, List.length_nil]
          omega
        obtain ⟨m4, hm40⟩ : ∃ m4, m4 = (withoutF (fs.take k) p).length + [fs[k]].length := ⟨_, rfl⟩
        have hm4 := Lib.hid hm40
        clear hm40
        clear hal hown hb he htk
        go_wp2_with (at_builtin; refine wpList_append_frow rfl _ _ rfl w.heap.size _ (withoutF (fs.take k) p) [fs[k]] rfl HO.out (some ⟨wr.heap.size, 0, none⟩) 1 1 rfl rfl (fun h => by cases h) HC.out hbs hle.out m4 hm4.out ?_)
        intro A4 c4 w4 ho4 hg4
        have HB4 := Lib.hid (below_appendf HBA.out HO.out hg4 (Nat.le_refl _))
        rw [← HTK.out] at ho4
        have HO4 := Lib.hid ho4
        clear ho4 hg4 HO HC HBA
        go_wp2
        go_roundw
        case rel => exact ⟨k + 1, m4, A4, c4, by omega, rfl, by go_num, HO4, HB4⟩
        case measure => simp [intOf]; omega
    · obtain rfl : k = fs.length := by omega
      rw [List.take_length] at hown
      go_wp2
      go_ret
      exact ⟨_, rfl, hown.out, hb.out⟩
end Go.Proofs.YtaepfahpbnpeiaaGreatDoor
