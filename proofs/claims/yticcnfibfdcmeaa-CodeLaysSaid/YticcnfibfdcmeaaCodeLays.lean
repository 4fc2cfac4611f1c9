/- The statement CodeLays: its walk. -/
import Derived.Test.YticcnfibfdcmeaaCodeAwake
namespace Go.Proofs.Yticcnfibfdcmeaa
open Go.RowKit
set_option linter.unusedVariables false

theorem lightB_facts {ss : List ByteArray} (h : lightB ss = true) : ss.length ≤ 30 ∧ ∀ s ∈ ss, s.size ≤ 300 := by
  unfold lightB at h
  rw [Bool.and_eq_true, List.all_eq_true] at h
  exact ⟨by simpa using h.2, fun s hs => by simpa using h.1 s hs⟩
theorem texts_bound : ∀ (ss : List ByteArray), (∀ s ∈ ss, s.size ≤ 300) → (textsB (lists ss)).length ≤ ss.length * 310
  | [], _ => by simp [lists, textsB]
  | s :: ss, h => by
    have ih := texts_bound ss fun x hx => h x (by simp [hx])
    have h1 := h s (by simp)
    have h2 := numB_len s.size
    have e : textsB (lists (s :: ss)) = textB s.data.toList ++ textsB (lists ss) := rfl
    have h3 : (textB s.data.toList).length = (numB s.size).length + s.size := by simp [textB]
    rw [e, List.length_append, h3]
    simp; omega

set_option maxRecDepth 100000 in
theorem lays_dark (n : Int) (s : ByteArray) (A : Option Addr) (ss : List ByteArray) (cap : Nat) (w : World) (hs : s.size ≤ 9223372036854775807) (hl : Strs w w.heap.size A ss) (hn : ss.length ≤ 9223372036854775807)
    (hd : lightB ss = false) :
    Calls Try.prog 3 #[.int .u64 n, .string s, .slice A ss.length cap] w fun e w' => e = .returned (.bool true) ∧ Below w.heap.size w w' := by
  have hli := light_any A ss cap w hl hn
  rw [hd] at hli
  have HL := Lib.hid hli
  clear hli hd hl
  go_enter Try.func3, Try.ntmps3
  go_wp2_with (first
    | (go_at_call 5; refine HL.out.mono ?_; rintro e w' ⟨rfl, rfl⟩)
    | (go_at_call 6; refine (awake_any _).mono ?_; rintro e w2 ⟨rfl, hb2⟩))
  go_ret
  exact ⟨rfl, hb2⟩

set_option maxRecDepth 100000 in
theorem lays_long (n : Int) (s : ByteArray) (A : Option Addr) (ss : List ByteArray) (cap : Nat) (w : World) (hs : s.size ≤ 9223372036854775807) (hl : Strs w w.heap.size A ss) (hn : ss.length ≤ 9223372036854775807)
    (hd : lightB ss = true) (h3 : 300 < s.size) :
    Calls Try.prog 3 #[.int .u64 n, .string s, .slice A ss.length cap] w fun e w' => e = .returned (.bool true) ∧ Below w.heap.size w w' := by
  have hli := light_any A ss cap w hl hn
  rw [hd] at hli
  have HL := Lib.hid hli
  clear hli hd hl
  go_enter Try.func3, Try.ntmps3
  go_wp2_with (first
    | (go_at_call 5; refine HL.out.mono ?_; rintro e w' ⟨rfl, rfl⟩)
    | (go_at_call 6; refine (awake_any _).mono ?_; rintro e w2 ⟨rfl, hb2⟩))
  go_ret
  exact ⟨rfl, hb2⟩

set_option maxHeartbeats 1000000 in
set_option maxRecDepth 100000 in
theorem lays_full (n : Int) (s : ByteArray) (A : Option Addr) (ss : List ByteArray) (cap : Nat) (w : World) (h0 : 0 ≤ n) (h1 : n ≤ 18446744073709551615) (hl : Strs w w.heap.size A ss) (hn : ss.length ≤ 9223372036854775807)
    (hd : lightB ss = true) (h3 : s.size ≤ 300) :
    Calls Try.prog 3 #[.int .u64 n, .string s, .slice A ss.length cap] w fun e w' => e = .returned (.bool true) ∧ Below w.heap.size w w' := by
  have hli := light_any A ss cap w hl hn
  rw [hd] at hli
  have HL := Lib.hid hli
  obtain ⟨hlen, hall⟩ := lightB_facts hd
  have htb := texts_bound ss hall
  have hnn := numB_len ss.length
  have HN := Lib.hid (fun W => num_any n W h0 h1)
  have HRN := Lib.hid (fun W => refnum_any n W h0 h1)
  have hNB := numB_len n.toNat
  have hTB : (textB s.data.toList).length ≤ 310 := by
    have := numB_len s.size
    have e : (textB s.data.toList).length = (numB s.size).length + s.size := by simp [textB]
    omega
  have hLB : (listB (lists ss)).length ≤ 10000 := by
    have e : (listB (lists ss)).length = (numB ss.length).length + (textsB (lists ss)).length := by simp [listB, lists_len]
    omega
  have hLL : (numB ss.length).length + (textsB (lists ss)).length ≤ 140737488351232 := by omega
  have HTX := Lib.hid (fun W => text_any s W (by omega))
  have HRT := Lib.hid (fun W => reftext_any s W (by omega))
  have HLI := Lib.hid (fun W (hS : Strs W W.heap.size A ss) => list_any A ss cap W hS (by omega) hLL)
  have HRL := Lib.hid (fun W (hS : Strs W W.heap.size A ss) => reflist_any A ss cap W hS (by omega) hLL)
  have HS := Lib.hid hl
  have r1 := Lib.hid (rNum_num n.toNat (textB s.data.toList ++ (listB (lists ss) ++ [33])) (by omega))
  have r2 := Lib.hid (rText_text s.data.toList (listB (lists ss) ++ [33]) (by simp; omega))
  have r3 := Lib.hid (rList_list (lists ss) [33] (by simp [lists]; omega) (fun x hx => by
    simp only [lists, List.mem_map] at hx
    obtain ⟨y, hy, rfl⟩ := hx
    have := hall y hy
    simp; omega))
  have hnn0 : ((n.toNat : Nat) : Int) = n := Int.toNat_of_nonneg h0
  have HNN := Lib.hid hnn0
  clear hli hd hl htb hnn hall hLL hnn0 h1
  generalize numB n.toNat = NB at *
  generalize textB s.data.toList = TB at *
  generalize hLBe : listB (lists ss) = LB at *
  clear hLBe
  go_enter Try.func3, Try.ntmps3
  go_wp2_with (go_at_call 5; refine HL.out.mono ?_; rintro e w' ⟨rfl, rfl⟩)
  clear HL
  refine (HN.out _).mono ?_
  rintro e w1 ⟨rfl, hb1⟩
  go_wp2_with fail
  refine (HTX.out _).mono ?_
  rintro e w2 ⟨rfl, hb2⟩
  have hb02 : Below w.heap.size w w2 := hb1.trans (hb2.mono hb1.size)
  have HS2 := Lib.hid ((HS.out.below hb02).more hb02.size)
  clear hb1 hb2
  go_wp2_with fail
  refine (HLI.out _ HS2.out).mono ?_
  rintro e w3 ⟨rfl, hb3⟩
  have hb03 := hb02.trans (hb3.mono hb02.size)
  clear HS2 hb02 hb3
  go_wp2_with fail
  refine (read_any _ _).mono ?_
  rintro e w4 ⟨rfl, hr4, hb4⟩
  have hb04 := hb03.trans (hb4.mono hb03.size)
  have hg : w.heap.size ≤ w3.heap.size := hb03.size
  have HR4 := Lib.hid (show Rd w4 w3.heap.size (NB ++ (TB ++ (LB ++ [33]))) 0 by
    have e : ((⟨NB.toArray⟩ ++ ⟨TB.toArray⟩ ++ ⟨LB.toArray⟩ ++ ⟨#[33]⟩ : ByteArray)).data.toList = NB ++ (TB ++ (LB ++ [33])) := by simp
    rw [e] at hr4
    exact hr4)
  clear hr4 hb4 hb03
  generalize w3.heap.size = g at *
  have HA := Lib.hid (rnum_ok g _ w4 HR4.out (by simp; omega))
  rw [r1.out] at HA
  simp only at HA
  rw [HNN.out] at HA
  go_wp2_with fail
  refine HA.out.mono ?_
  rintro e w5 ⟨rfl, hr5, hg5⟩
  have HB := Lib.hid (rtext_ok g _ w5 hr5 (by simp; omega))
  rw [r2.out] at HB
  simp only at HB
  rw [show (⟨s.data.toList.toArray⟩ : ByteArray) = s from by simp] at HB
  clear HA HR4 hr5
  go_wp2_with fail
  refine HB.out.mono ?_
  rintro e w6 ⟨rfl, hr6, hg6⟩
  have HC := Lib.hid (rlist_ok g _ w6 hr6 (by simp; omega))
  rw [r3.out] at HC
  clear HB hr6
  go_wp2_with fail
  refine HC.out.mono ?_
  rintro e w7 ⟨A2, c2, ss2, rfl, hl7, hs7, _, hr7, hg7⟩
  obtain rfl := lists_inj hl7
  have hb07 : Below w.heap.size w w7 := below_of_grownBy hb04 (grownBy_trans (grownBy_trans hg5 hg6) hg7) hg hb04.size
  have HR7 := Lib.hid hr7
  have HS7 := Lib.hid hs7
  clear hl7 HC hg5 hg6 hg7 hb04 hr7 hs7
  go_wp2_with fail
  refine (awake_any _).mono ?_
  rintro e w8 ⟨rfl, hb8⟩
  have HR8 := Lib.hid (HR7.out.below hb8)
  have HS8 := Lib.hid ((HS7.out.below hb8).more hb8.size)
  have hb08 := hb07.trans (hb8.mono hb07.size)
  clear HR7 HS7 hb07 hb8
  go_wp2_with fail
  refine (HRN.out _).mono ?_
  rintro e w9 ⟨rfl, hb9⟩
  have HR9 := Lib.hid (HR8.out.below hb9)
  have HS9 := Lib.hid ((HS8.out.below hb9).more hb9.size)
  have hb09 := hb08.trans (hb9.mono hb08.size)
  clear HR8 HS8 hb08 hb9
  go_wp2_with fail
  refine (HRT.out _).mono ?_
  rintro e wa ⟨rfl, hba⟩
  have HRa := Lib.hid (HR9.out.below hba)
  have HSa := Lib.hid ((HS9.out.below hba).more hba.size)
  have hb0a := hb09.trans (hba.mono hb09.size)
  have HAa := Lib.hid ((HS.out.below hb0a).more hb0a.size)
  clear HR9 HS9 hb09 hba
  go_wp2_with fail
  refine (HRL.out _ HAa.out).mono ?_
  rintro e wb ⟨rfl, hbb⟩
  have HRb := Lib.hid (HRa.out.below hbb)
  have HSb := Lib.hid ((HSa.out.below hbb).more hbb.size)
  have HAb := Lib.hid ((HAa.out.below hbb).more hbb.size)
  have hb0b := hb0a.trans (hbb.mono hb0a.size)
  clear HRa HSa HAa hb0a hbb
  have HSAME := Lib.hid (same_any A2 A ss2 ss2 c2 cap wb HSb.out HAb.out (by omega) (by omega))
  rw [show decide (ss2 = ss2) = true from by simp] at HSAME
  go_wp2_with fail
  refine HSAME.out.mono ?_
  rintro e wc ⟨rfl, hbc⟩
  have HRc := Lib.hid (HRb.out.below hbc)
  have hb0c := hb0b.trans (hbc.mono hb0b.size)
  clear HRb HSb HAb hb0b hbc HSAME
  go_wp2_with (first
    | (go_at_call 18; refine (left_any g [33] 0 _ HRc.out).mono ?_; rintro e w' ⟨rfl, rfl⟩)
    | (go_at_call 19; refine (err_any g [33] 0 _ HRc.out).mono ?_; rintro e w' ⟨rfl, rfl⟩))
  go_ret
  exact ⟨rfl, hb0c⟩
end Go.Proofs.Yticcnfibfdcmeaa
