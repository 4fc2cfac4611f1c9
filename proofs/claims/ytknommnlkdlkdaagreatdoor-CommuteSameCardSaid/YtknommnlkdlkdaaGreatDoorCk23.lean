/- The reference's Find, Dir, Up, Same of layer 6. Package path's Move. Package path's Less: slices.Compare of names, strings.Compare, cmp.Or. Package path's Less, Ups, Join. The reference's Same and Without of layer 6. The reference's Without of layer 6. The reference's Sort of layer 6. -/
import Derived.Test.YtknommnlkdlkdaaGreatDoorCk21
import Derived.Test.YtknommnlkdlkdaaGreatDoorCk05
import Derived.Test.YtknommnlkdlkdaaGreatDoorCk07
import Derived.Test.YtknommnlkdlkdaaGreatDoorCk06
import Derived.Laws.Cover1
import Derived.Sort.OwnSorted
import Derived.Test.YtknommnlkdlkdaaGreatDoorCk02
import Derived.Deep.RegionHeld3
import Derived.Deep.DrawnRows
namespace Go.Proofs.YtknommnlkdlkdaaGreatDoor
open Go.RowKit
set_option linter.unusedVariables false

/-- Where a path stands in files; below 0: nowhere. -/
def findZ (fs : List Fm) (p : ByteArray) : Int := match fs.findIdx? fun f => decide (f.p = p) with
  | some i => i
  | none => -1
theorem findZ_at {fs : List Fm} {p : ByteArray} {k : Nat} (hk : k < fs.length) (he : fs[k].p = p) (hn : ∀ j (hj : j < fs.length), j < k → fs[j].p ≠ p) : findZ fs p = k := by
  have : fs.findIdx? (fun f => decide (f.p = p)) = some k := by
    rw [List.findIdx?_eq_some_iff_getElem]
    exact ⟨hk, by simpa using he, fun j hj => by simpa using hn j (by omega) hj⟩
  unfold findZ
  rw [this]
theorem findZ_none {fs : List Fm} {p : ByteArray} (hn : ∀ j (hj : j < fs.length), fs[j].p ≠ p) : findZ fs p = -1 := by
  have : fs.findIdx? (fun f => decide (f.p = p)) = none := by
    rw [List.findIdx?_eq_none_iff]
    intro f hf
    obtain ⟨j, hj, rfl⟩ := List.getElem_of_mem hf
    simpa using hn j hj
  unfold findZ
  rw [this]
theorem findZ_cases (fs : List Fm) (p : ByteArray) : (∃ k, ∃ hk : k < fs.length, findZ fs p = k ∧ fs[k].p = p ∧ ∀ j (hj : j < fs.length), j < k → fs[j].p ≠ p) ∨ (findZ fs p = -1 ∧ ∀ j (hj : j < fs.length), fs[j].p ≠ p) := by
  unfold findZ
  cases h : fs.findIdx? (fun f => decide (f.p = p)) with
  | none =>
    rw [List.findIdx?_eq_none_iff] at h
    exact .inr ⟨rfl, fun j hj => by simpa using h fs[j] (List.getElem_mem _)⟩
  | some k =>
    rw [List.findIdx?_eq_some_iff_getElem] at h
    obtain ⟨hk, h1, h2⟩ := h
    exact .inl ⟨k, hk, rfl, by simpa using h1, fun j hj hjk => by simpa using h2 j hjk⟩
theorem findZ_range (fs : List Fm) (p : ByteArray) (hn : fs.length ≤ 1000000) : -1 ≤ findZ fs p ∧ findZ fs p ≤ 1000000 ∧ (0 ≤ findZ fs p → ∃ k, ∃ hk : k < fs.length, findZ fs p = k ∧ fs[k].p = p) := by
  rcases findZ_cases fs p with ⟨k, hk, h1, h2, _⟩ | ⟨h1, _⟩
  · exact ⟨by omega, by omega, fun _ => ⟨k, hk, h1, h2⟩⟩
  · exact ⟨by omega, by omega, fun h => by omega⟩
/-- Is a path a directory, or the root? -/
def dirZ (fs : List Fm) (p : ByteArray) : Bool := decide (p = ⟨#[]⟩) || fs.any fun f => decide (f.p = p) && f.d
/-- A path once alone. -/
def OnceF (fs : List Fm) : Prop := fs.Pairwise fun f g => f.p ≠ g.p
/-- Which file is found first. -/
def dirAt (fs : List Fm) (p : ByteArray) : Bool := decide (p = ⟨#[]⟩) || (match fs.find? fun f => decide (f.p = p) with
  | some f => f.d
  | none => false)
theorem find_at {fs : List Fm} {p : ByteArray} {k : Nat} (hk : k < fs.length) (he : fs[k].p = p) (hn : ∀ j (hj : j < fs.length), j < k → fs[j].p ≠ p) : fs.find? (fun f => decide (f.p = p)) = some fs[k] := by
  rw [List.find?_eq_some_iff_getElem]
  exact ⟨by simpa using he, k, hk, rfl, fun j hj => by simpa using hn j (by omega) hj⟩
theorem find_none {fs : List Fm} {p : ByteArray} (hn : ∀ j (hj : j < fs.length), fs[j].p ≠ p) : fs.find? (fun f => decide (f.p = p)) = none := by
  rw [List.find?_eq_none]
  intro f hf
  obtain ⟨j, hj, rfl⟩ := List.getElem_of_mem hf
  simpa using hn j hj
theorem names_short (p : List UInt8) : (names nameP p).length ≤ 16 ∧ ∀ m, (joinB ((names nameP p).take m)).length ≤ 200 := by
  by_cases h : names nameP p = []
  · rw [h]; simp [joinB]
  · refine ⟨by rw [(names_pieces nameP h).1]; exact (names_pieces nameP h).2.2.2, fun m => ?_⟩
    have h1 := join_take_le (names nameP p) m
    rw [join_names nameP h] at h1
    have := (names_pieces nameP h).2.1
    omega
end Go.Proofs.YtknommnlkdlkdaaGreatDoor
namespace Go.Proofs.YtknommnlkdlkdaaGreatDoor
open Go.RowKit
set_option linter.unusedVariables false

theorem trim_self (p : List UInt8) : Lib.trimPrefix p p = [] := by
  unfold Lib.trimPrefix Lib.hasPrefix
  rw [if_pos (List.isPrefixOf_iff_prefix.2 (List.prefix_refl p)), List.drop_length]
theorem trim_in (f r : List UInt8) : Lib.trimPrefix (f ++ 47 :: r) f = 47 :: r := by
  unfold Lib.trimPrefix Lib.hasPrefix
  rw [if_pos (List.isPrefixOf_iff_prefix.2 (List.prefix_append _ _)), List.drop_left]
theorem within_is {p f : List UInt8} (hf : f ≠ []) (h : withinP nameP p f = true) : ∃ r, p = f ++ 47 :: r ∧ names nameP p ≠ [] := by
  rw [within_dir hf, Bool.and_eq_true, decide_eq_true_eq] at h
  obtain ⟨r, e⟩ := pre_of_prefix h.1
  exact ⟨r, e, h.2⟩
theorem names_nil : names nameP [] = [] := by
  have := nameP_empty
  simp [names, pieces, this]
theorem string_ne {s t : ByteArray} (h : s ≠ t) : (s.toList == t.toList) = false := by
  rw [beq_eq_false_iff_ne]
  intro e
  rw [toList_eq, toList_eq] at e
  exact h (bytes_inj e)

theorem size_app (u x : ByteArray) : (u ++ x).size = u.size + x.size := by simp
end Go.Proofs.YtknommnlkdlkdaaGreatDoor
namespace Go.Proofs.YtknommnlkdlkdaaGreatDoor
open Go.RowKit
set_option linter.unusedVariables false

theorem compareBytes_lt : ∀ (a b : List UInt8), Lib.compareBytes a b < 0 ↔ a < b
  | [], [] => by simp [Lib.compareBytes]
  | [], _ :: _ => by simp [Lib.compareBytes]
  | _ :: _, [] => by simp [Lib.compareBytes]
  | a :: l, b :: m => by
    have ih := compareBytes_lt l m
    unfold Lib.compareBytes
    rw [List.cons_lt_cons_iff]
    by_cases h : a < b
    · simp [h]
    · by_cases k : b < a
      · have : a ≠ b := by rintro rfl; exact h k
        simp [h, k, this]
      · have : a = b := UInt8.le_antisymm (UInt8.not_lt.1 k) (UInt8.not_lt.1 h)
        simp [this, ih]
def cmpB (x y : List UInt8) : Int := if x = y then 0 else if x < y then -1 else 1
set_option maxHeartbeats 1000000 in
theorem cmpstr_any (s t : ByteArray) (x y : List UInt8) (hx : s.data.toList = x) (hy : t.data.toList = y) (w : World) :
    Calls Tryz.prog 90 #[.string s, .string t] w fun e w' => e = .returned (.int .i64 (cmpB x y)) ∧ w' = w := by
  have h1 : (s.toList == s.toList) = true := by simp
  have h2 : (t.toList == t.toList) = true := by simp
  have N1 : ∀ (z : ByteArray) w, Calls Tryz.prog 109 #[.string z] w fun e w' => e = .returned (.bool false) ∧ w' = w := by
    intro z w
    have h1 : (z.toList == z.toList) = true := by simp
    go_enter Tryz.func109, Tryz.ntmps109
    go_wp2
    go_ret
    exact ⟨rfl, rfl⟩
  have HN := Lib.hid N1
  have b1 : Op.bytesLess s.toList t.toList = decide (x < y) := by rw [bless_eqs, hx, hy]
  have b2 : Op.bytesLess t.toList s.toList = decide (y < x) := by rw [bless_eqs, hx, hy]
  have b3 : (s.toList == t.toList) = decide (x = y) := by
    rw [Bool.eq_iff_iff, beq_iff_eq, decide_eq_true_eq, toList_eq, toList_eq, hx, hy]
  clear N1 h1 h2
  rcases tri x y with h | h | h
  · have e : cmpB x y = -1 := by
      unfold cmpB
      rw [if_neg (by rintro rfl; exact List.lt_irrefl _ h), if_pos h]
    rw [e]
    rw [decide_eq_true h] at b1
    clear e b2 b3 hx hy h
    go_enter Tryz.func90, Tryz.ntmps90
    go_wp2_with fail
    refine (HN.out _ _).mono ?_
    rintro e w1 ⟨rfl, rfl⟩
    go_wp2_with fail
    refine (HN.out _ _).mono ?_
    rintro e w1 ⟨rfl, rfl⟩
    go_wp2
    go_ret
    exact ⟨rfl, rfl⟩
  · have e : cmpB x y = 0 := if_pos h
    rw [e]
    subst h
    rw [decide_eq_false (List.lt_irrefl _)] at b1 b2
    rw [decide_eq_true rfl] at b3
    clear e hx hy
    go_enter Tryz.func90, Tryz.ntmps90
    go_wp2_with fail
    refine (HN.out _ _).mono ?_
    rintro e w1 ⟨rfl, rfl⟩
    go_wp2_with fail
    refine (HN.out _ _).mono ?_
    rintro e w1 ⟨rfl, rfl⟩
    go_wp2
    go_ret
    exact ⟨rfl, rfl⟩
  · have e : cmpB x y = 1 := by
      unfold cmpB
      rw [if_neg (by rintro rfl; exact List.lt_irrefl _ h), if_neg (fun k => List.lt_irrefl _ (List.lt_trans h k))]
    rw [e]
    rw [decide_eq_false (fun k => List.lt_irrefl _ (List.lt_trans h k))] at b1
    rw [decide_eq_true h] at b2
    rw [decide_eq_false (by rintro rfl; exact List.lt_irrefl _ h)] at b3
    clear e hx hy h
    go_enter Tryz.func90, Tryz.ntmps90
    go_wp2_with fail
    refine (HN.out _ _).mono ?_
    rintro e w1 ⟨rfl, rfl⟩
    go_wp2_with fail
    refine (HN.out _ _).mono ?_
    rintro e w1 ⟨rfl, rfl⟩
    go_wp2
    go_ret
    exact ⟨rfl, rfl⟩
set_option maxHeartbeats 1000000 in
set_option maxRecDepth 100000 in
theorem or_any (b : Nat) (x y z : Int) (w : World) (h0 : w.cell? ⟨b, 0, none⟩ = some (.int .i64 x)) (h1 : w.cell? ⟨b, 1, none⟩ = some (.int .i64 y)) (hz : z = if x = 0 then y else x) :
    Calls Tryz.prog 60 #[.slice (some ⟨b, 0, none⟩) 2 2] w fun e w' => e = .returned (.int .i64 z) ∧ w' = w := by
  go_enter Tryz.func60, Tryz.ntmps60
  go_wp2
  go_loopw [8] (fun i wr => ∃ k : Nat, k ≤ 2 ∧ i = .int .i64 (k : Int) ∧ Hid ((1 ≤ k → x = 0) ∧ (2 ≤ k → y = 0)) ∧ wr = w) (fun i _ => 2 - (intOf i).toNat)
  case atStart => exact ⟨0, by omega, rfl, ⟨fun h => by omega, fun h => by omega⟩, rfl⟩
  case round =>
    obtain ⟨k, hk, rfl, hxy, rfl⟩ := hrel
    have hk3 : k = 0 ∨ k = 1 ∨ k = 2 := by omega
    rcases hk3 with rfl | rfl | rfl
    · by_cases hx : x = 0
      · subst hx
        clear hz h1 hxy
        go_wp2
        go_roundw
        case rel => exact ⟨1, by omega, by go_num, ⟨fun _ => by first | rfl | trivial, fun h => by omega⟩, by first | rfl | trivial⟩
        case measure => simp [intOf] <;> omega
      · have e : z = x := by rw [hz, if_neg hx]
        subst e
        have hb : (z == 0) = false := by simpa using hx
        have hb2 : (z != 0) = true := by simpa using hx
        clear hz h1 hxy
        go_wp2
        go_ret
        exact ⟨rfl, rfl⟩
    · have hx := hxy.out.1 (by omega)
      have e : z = y := by rw [hz, if_pos hx]
      subst e
      by_cases hy : z = 0
      · subst hy
        clear hz h0 hxy
        go_wp2
        go_roundw
        case rel => exact ⟨2, by omega, by go_num, ⟨fun _ => hx, fun h => by first | rfl | trivial⟩, by first | rfl | trivial⟩
        case measure => simp [intOf] <;> omega
      · have hb : (z == 0) = false := by simpa using hy
        have hb2 : (z != 0) = true := by simpa using hy
        clear hz h0 hxy
        go_wp2
        go_ret
        exact ⟨rfl, rfl⟩
    · have hx := hxy.out.1 (by omega)
      have hy := hxy.out.2 (by omega)
      have e : z = 0 := by rw [hz, if_pos hx, hy]
      subst e
      clear hz h0 h1 hxy
      go_wp2
      go_ret
      exact ⟨rfl, rfl⟩

theorem cmpB_lt (x y : List UInt8) : cmpB x y = 0 ↔ x = y := by
  unfold cmpB
  by_cases h : x = y
  · simp [h]
  · by_cases k : x < y <;> simp [h, k]
theorem cmpL_next {a b : List (List UInt8)} {i : Nat} (ha : i < a.length) (hb : i < b.length) : cmpL (a.drop i) (b.drop i) = if cmpB a[i] b[i] = 0 then cmpL (a.drop (i + 1)) (b.drop (i + 1)) else cmpB a[i] b[i] := by
  rw [cmpL_step ha hb]
  unfold cmpB
  by_cases h : a[i] = b[i]
  · simp [h]
  · by_cases k : a[i] < b[i] <;> simp [h, k]
set_option maxHeartbeats 1000000 in
set_option maxRecDepth 100000 in
theorem scompare_any (A A2 : Option Addr) (la lb : List (List UInt8)) (cap cap2 : Nat) (w : World) (c : Int) (hc : cmpL la lb = c) (hs : Strs w w.heap.size A (toBs la)) (ht : Strs w w.heap.size A2 (toBs lb)) (hn : la.length ≤ 1000000) (hn2 : lb.length ≤ 1000000) :
    Calls Tryz.prog 61 #[.slice A la.length cap, .slice A2 lb.length cap2] w fun e w' => e = .returned (.int .i64 c) ∧ w' = w := by
  have HS := Lib.hid hs
  have HT := Lib.hid ht
  have HC := Lib.hid hc
  clear hs ht hc
  go_enter Tryz.func61, Tryz.ntmps61
  go_wp2
  go_loopw [11] (fun i wr => ∃ k : Nat, k ≤ la.length ∧ i = .int .i64 (k : Int) ∧ Hid (k ≤ lb.length ∧ cmpL (la.drop k) (lb.drop k) = c) ∧ wr = w) (fun i _ => la.length - (intOf i).toNat)
  case atStart => exact ⟨0, by omega, rfl, ⟨Nat.zero_le _, HC.out⟩, rfl⟩
  case round =>
    obtain ⟨k, hk, rfl, hck, rfl⟩ := hrel
    obtain ⟨hkb, hcc⟩ := hck.out
    by_cases hlt : k < la.length
    · obtain ⟨g, off, rfl, hg, hcell⟩ := HS.out.at_ (k := k) (by rw [toBs_len]; exact hlt)
      have e1 : (toBs la)[k]'(by rw [toBs_len]; exact hlt) = toB la[k] := by simp [toBs]
      rw [e1] at hcell
      by_cases hlt2 : k < lb.length
      · obtain ⟨g2, off2, rfl, hg2, hcell2⟩ := HT.out.at_ (k := k) (by rw [toBs_len]; exact hlt2)
        have e2 : (toBs lb)[k]'(by rw [toBs_len]; exact hlt2) = toB lb[k] := by simp [toBs]
        rw [e2] at hcell2
        have hnx := cmpL_next hlt hlt2
        rw [hcc] at hnx
        have CC := Lib.hid (fun w => cmpstr_any (toB la[k]) (toB lb[k]) la[k] lb[k] (of_toB _) (of_toB _) w)
        obtain ⟨d, hd⟩ : ∃ d, cmpB la[k] lb[k] = d := ⟨_, rfl⟩
        rw [hd] at CC hnx
        have hq : ¬ ((lb.length : Int) ≤ (k : Int)) := by omega
        by_cases h0 : d = 0
        · subst h0
          rw [if_pos rfl] at hnx
          have hck2 : Hid (k + 1 ≤ lb.length ∧ cmpL (la.drop (k + 1)) (lb.drop (k + 1)) = c) := ⟨by omega, hnx.symm⟩
          generalize toB la[k] = x at *
          generalize toB lb[k] = y at *
          clear hck hkb hcc hnx hd e1 e2 hlt2
          go_wp2_with fail
          refine (CC.out _).mono ?_
          rintro e w1 ⟨rfl, rfl⟩
          go_wp2
          go_roundw
          case rel => exact ⟨k + 1, by omega, by go_num, hck2, by first | rfl | trivial⟩
          case measure => simp [intOf] <;> omega
        · rw [if_neg h0] at hnx
          subst hnx
          have hb : (c == 0) = false := by simpa using h0
          generalize toB la[k] = x at *
          generalize toB lb[k] = y at *
          clear hck hkb hcc hd e1 e2 hlt2
          go_wp2_with fail
          refine (CC.out _).mono ?_
          rintro e w1 ⟨rfl, rfl⟩
          go_wp2
          go_ret
          exact ⟨rfl, rfl⟩
      · have hq : ((lb.length : Int) ≤ (k : Int)) := by omega
        have e0 : lb.drop k = [] := List.drop_eq_nil_of_le (by omega)
        have hcf : c = 1 := by
          rw [← hcc, e0, List.drop_eq_getElem_cons hlt]
          rfl
        subst hcf
        clear hck hkb hcc e0 e1 hlt2
        go_wp2
        go_ret
        exact ⟨rfl, rfl⟩
    · obtain rfl : k = la.length := by omega
      have e0 : la.drop la.length = [] := List.drop_length
      rw [e0] at hcc
      by_cases hlt2 : la.length < lb.length
      · have hcf : c = -1 := by
          rw [← hcc, List.drop_eq_getElem_cons hlt2]
          rfl
        subst hcf
        have hq : (la.length : Int) < (lb.length : Int) := by omega
        clear hck hkb hcc e0 hlt2 hlt
        go_wp2
        go_ret
        exact ⟨rfl, rfl⟩
      · have hcf : c = 0 := by
          rw [← hcc, List.drop_eq_nil_of_le (by omega)]
          rfl
        subst hcf
        have hq : ¬ (la.length : Int) < (lb.length : Int) := by omega
        clear hck hkb hcc e0 hlt2 hlt
        go_wp2
        go_ret
        exact ⟨rfl, rfl⟩
end Go.Proofs.YtknommnlkdlkdaaGreatDoor
namespace Go.Proofs.YtknommnlkdlkdaaGreatDoor
open Go.RowKit
set_option linter.unusedVariables false

theorem strcompare_any (s t : ByteArray) (c : Int) (hc : Lib.compareBytes s.data.toList t.data.toList = c) (w : World) :
    Calls Tryz.prog 63 #[.string s, .string t] w fun e w' => e = .returned (.int .i64 c) ∧ w' = w := by
  have h := Tryz.strings_Compare s t w
  rwa [hc] at h
theorem pnames_len (s : ByteArray) : (pnames s).length ≤ 16 := by
  unfold pnames names
  split
  · rename_i h; exact h.2.2
  · simp
set_option maxHeartbeats 2000000 in
set_option maxRecDepth 100000 in
theorem less_c : LessC := by
  intro s t w hs ht
  rw [less_or nameP s.data.toList t.data.toList _ (compareBytes_lt _ _)]
  obtain ⟨d, hd⟩ : ∃ d, Lib.compareBytes s.data.toList t.data.toList = d := ⟨_, rfl⟩
  obtain ⟨c, hc⟩ : ∃ c, cmpL (pnames s) (pnames t) = c := ⟨_, rfl⟩
  rw [show cmpL (names nameP s.data.toList) (names nameP t.data.toList) = c from hc, hd]
  obtain ⟨z, hz⟩ : ∃ z, (if c = 0 then d else c) = z := ⟨_, rfl⟩
  rw [hz]
  have CA := Lib.hid (fun w => split_any s w (by omega))
  have CB := Lib.hid (fun w => split_any t w (by omega))
  have CS := Lib.hid (strcompare_any s t d hd)
  have hn1 := pnames_len s
  have hn2 := pnames_len t
  have HC := Lib.hid hc
  have HZ := Lib.hid hz
  generalize pnames s = l1 at *
  generalize pnames t = l2 at *
  clear hd hc hz
  go_enter Tryz.func32, Tryz.ntmps32
  go_wp2_with fail
  refine (CA.out _).mono ?_
  rintro e w1 ⟨A1, k1, rfl, hA1, hs1, hb1⟩
  have HB1 := Lib.hid hb1
  have S1 := Lib.hid hs1
  clear hb1 hs1 hA1
  go_wp2_with fail
  refine (CB.out _).mono ?_
  rintro e w2 ⟨A2, k2, rfl, hA2, hs2, hb2⟩
  have HB2 := Lib.hid (HB1.out.trans (hb2.mono HB1.out.size))
  have S2 := Lib.hid hs2
  have S1 := Lib.hid (S1.out.on hb2)
  clear hb2 hs2 hA2 HB1
  have CC := Lib.hid (scompare_any A1 A2 l1 l2 k1 k2 w2 c HC.out S1.out S2.out (by omega) (by omega))
  go_wp2_with fail
  refine CC.out.mono ?_
  rintro e w3 ⟨rfl, rfl⟩
  go_wp2_with fail
  refine (CS.out _).mono ?_
  rintro e w4 ⟨rfl, rfl⟩
  clear CC CS
  have CO := Lib.hid (fun ty => or_any w4.heap.size c d z (w4.alloc (.cells #[.int .i64 c, .int .i64 d] ty)) (by rw [World.cell?_alloc_new]; rfl) (by rw [World.cell?_alloc_new]; rfl) HZ.out.symm)
  have HA := Lib.hid (fun ty => HB2.out.trans (((Below.refl _ _).alloc (Nat.le_refl _) (.cells #[.int .i64 c, .int .i64 d] ty) : Below w4.heap.size w4 _).mono HB2.out.size))
  go_wp2_with fail
  refine (CO.out _).mono ?_
  rintro e w5 ⟨rfl, rfl⟩
  go_wp2
  go_ret
  exact ⟨rfl, HA.out _⟩

theorem putRow_under {B : Nat} {w0 w : World} {g q : Nat} {d : Array (List UInt8)} (h : Below B w0 w) (hg : B ≤ g) : Below B w0 (Sort.putRow encStr (Sort.ahead w q) g 0 d) := Lib.below_putRow h hg
theorem joined_le {p : List UInt8} (m : Nat) : (joinB ((names nameP p).take m)).length ≤ 200 := by
  by_cases h : names nameP p = []
  · rw [h]; simp [joinB]
  · have h1 := join_take_le (names nameP p) m
    rw [join_names nameP h] at h1
    have := (names_pieces nameP h).2.1
    omega
def lenV : Value → Nat
  | .slice _ k _ => k
  | _ => 0
end Go.Proofs.YtknommnlkdlkdaaGreatDoor
namespace Go.Proofs.YtknommnlkdlkdaaGreatDoor
open Go.RowKit
set_option linter.unusedVariables false

/-- No file has too many lines. -/
def Short (fs : List Fm) : Prop := fs.length ≤ 1000000 ∧ ∀ f ∈ fs, f.ls.length ≤ 1000000

end Go.Proofs.YtknommnlkdlkdaaGreatDoor
namespace Go.Proofs.YtknommnlkdlkdaaGreatDoor
open Go.RowKit
set_option linter.unusedVariables false

def withoutF (fs : List Fm) (p : ByteArray) : List Fm := fs.filter fun f => decide (f.p ≠ p)
theorem without_take (fs : List Fm) (p : ByteArray) (k : Nat) (h : k < fs.length) : withoutF (fs.take (k + 1)) p = withoutF (fs.take k) p ++ if fs[k].p ≠ p then [fs[k]] else [] := by
  unfold withoutF
  rw [List.take_succ_eq_append_getElem h, List.filter_append]
  congr 1
  by_cases hp : fs[k].p = p <;> simp [hp]
theorem without_len (fs : List Fm) (p : ByteArray) : (withoutF fs p).length ≤ fs.length := List.length_filter_le _ _

end Go.Proofs.YtknommnlkdlkdaaGreatDoor
namespace Go.Proofs.YtknommnlkdlkdaaGreatDoor
open Go.RowKit
set_option linter.unusedVariables false

def lessF (x y : Fm) : Bool := lessP nameP x.p.data.toList y.p.data.toList
/-- Where a file goes, from the end on. -/
def placeF (x : Fm) (out : List Fm) : Nat → Nat
  | 0 => 0
  | j + 1 => match out[j]? with
    | some g => if lessF x g then placeF x out j else j + 1
    | none => j + 1
theorem placeF_le (x : Fm) (out : List Fm) : ∀ j, placeF x out j ≤ j
  | 0 => Nat.le_refl _
  | j + 1 => by
    have ih := placeF_le x out j
    unfold placeF
    split
    · split <;> omega
    · omega
theorem placeF_yes {x : Fm} {out : List Fm} {j : Nat} (hj : j < out.length) (h : lessF x out[j] = true) : placeF x out (j + 1) = placeF x out j := by
  rw [placeF, List.getElem?_eq_getElem hj]
  simp [h]
theorem placeF_no {x : Fm} {out : List Fm} {j : Nat} (hj : j < out.length) (h : lessF x out[j] = false) : placeF x out (j + 1) = j + 1 := by
  rw [placeF, List.getElem?_eq_getElem hj]
  simp [h]
def insF (out : List Fm) (x : Fm) : List Fm := out.take (placeF x out out.length) ++ [x] ++ out.drop (placeF x out out.length)
def sortF (l : List Fm) : List Fm := l.foldl insF []
theorem sort_take (l : List Fm) (k : Nat) (h : k < l.length) : sortF (l.take (k + 1)) = insF (sortF (l.take k)) l[k] := by
  unfold sortF
  rw [List.take_succ_eq_append_getElem h, List.foldl_append]
  rfl
theorem ins_len (out : List Fm) (x : Fm) : (insF out x).length = out.length + 1 := by
  have := placeF_le x out out.length
  unfold insF
  simp
  omega
theorem foldl_ins_len : ∀ (l out : List Fm), (l.foldl insF out).length = out.length + l.length
  | [], out => rfl
  | x :: l, out => by
    rw [List.foldl_cons, foldl_ins_len l, ins_len, List.length_cons]
    omega
theorem sort_len (l : List Fm) : (sortF l).length = l.length := by
  unfold sortF
  rw [foldl_ins_len]
  simp
theorem ins_mem (out : List Fm) (x f : Fm) : f ∈ insF out x ↔ f ∈ out ∨ f = x := by
  have e : f ∈ out ↔ f ∈ out.take (placeF x out out.length) ∨ f ∈ out.drop (placeF x out out.length) := by
    rw [← List.mem_append, List.take_append_drop]
  rw [e]
  unfold insF
  simp only [List.mem_append, List.mem_singleton]
  constructor
  · rintro ((h | h) | h)
    · exact .inl (.inl h)
    · exact .inr h
    · exact .inl (.inr h)
  · rintro ((h | h) | h)
    · exact .inl (.inl h)
    · exact .inr h
    · exact .inl (.inr h)
theorem foldl_ins_mem (f : Fm) : ∀ (l out : List Fm), f ∈ l.foldl insF out ↔ f ∈ out ∨ f ∈ l
  | [], out => by simp
  | x :: l, out => by
    rw [List.foldl_cons, foldl_ins_mem f l, ins_mem, List.mem_cons]
    constructor
    · rintro ((h | h) | h)
      · exact .inl h
      · exact .inr (.inl h)
      · exact .inr (.inr h)
    · rintro (h | h | h)
      · exact .inl (.inl h)
      · exact .inl (.inr h)
      · exact .inr h
theorem sort_mem (l : List Fm) (f : Fm) : f ∈ sortF l ↔ f ∈ l := by
  unfold sortF
  rw [foldl_ins_mem]
  simp

theorem below_drew {w w' : World} (h : Below w.drew.heap.size w.drew w') : Below w.heap.size w w' := ⟨h.os, h.tape, h.output, h.size, h.block⟩
end Go.Proofs.YtknommnlkdlkdaaGreatDoor
