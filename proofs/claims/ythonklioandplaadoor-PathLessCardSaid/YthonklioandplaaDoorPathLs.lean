
/- Package path's Less, Ups, Join. -/
import Derived.Test.YthonklioandplaaDoorPathOrd
import Derived.Sort.OwnSorted
namespace Go.Proofs.YthonklioandplaaDoor
open Go.RowKit
set_option linter.unusedVariables false

theorem strcompare_any (s t : ByteArray) (c : Int) (hc : Lib.compareBytes s.data.toList t.data.toList = c) (w : World) :
    Calls Tryd.prog 33 #[.string s, .string t] w fun e w' => e = .returned (.int .i64 c) ∧ w' = w := by
  have h := Tryd.strings_Compare s t w
  rwa [hc] at h
theorem pnames_len (s : ByteArray) : (pnames s).length ≤ 16 := by
  unfold pnames names
  split
  · rename_i h; exact h.2.2
  · simp
set_option maxHeartbeats 2000000 in
set_option maxRecDepth 100000 in
theorem less_c : LessC := by
  intro s t w hs ht
  rw [less_or nameP s.data.toList t.data.toList _ (compareBytes_lt _ _)]
  obtain ⟨d, hd⟩ : ∃ d, Lib.compareBytes s.data.toList t.data.toList = d := ⟨_, rfl⟩
  obtain ⟨c, hc⟩ : ∃ c, cmpL (pnames s) (pnames t) = c := ⟨_, rfl⟩
  rw [show cmpL (names nameP s.data.toList) (names nameP t.data.toList) = c from hc, hd]
  obtain ⟨z, hz⟩ : ∃ z, (if c = 0 then d else c) = z := ⟨_, rfl⟩
  rw [hz]
  have CA := Lib.hid (fun w => split_any s w (by omega))
  have CB := Lib.hid (fun w => split_any t w (by omega))
  have CS := Lib.hid (strcompare_any s t d hd)
  have hn1 := pnames_len s
  have hn2 := pnames_len t
  have HC := Lib.hid hc
  have HZ := Lib.hid hz
  generalize pnames s = l1 at *
  generalize pnames t = l2 at *
  clear hd hc hz
  go_enter Tryd.func21, Tryd.ntmps21
  go_wp2_with fail
  refine (CA.out _).mono ?_
  rintro e w1 ⟨A1, k1, rfl, hA1, hs1, hb1⟩
  have HB1 := Lib.hid hb1
  have S1 := Lib.hid hs1
  clear hb1 hs1 hA1
  go_wp2_with fail
  refine (CB.out _).mono ?_
  rintro e w2 ⟨A2, k2, rfl, hA2, hs2, hb2⟩
  have HB2 := Lib.hid (HB1.out.trans (hb2.mono HB1.out.size))
  have S2 := Lib.hid hs2
  have S1 := Lib.hid (S1.out.on hb2)
  clear hb2 hs2 hA2 HB1
  have CC := Lib.hid (scompare_any A1 A2 l1 l2 k1 k2 w2 c HC.out S1.out S2.out (by omega) (by omega))
  go_wp2_with fail
  refine CC.out.mono ?_
  rintro e w3 ⟨rfl, rfl⟩
  go_wp2_with fail
  refine (CS.out _).mono ?_
  rintro e w4 ⟨rfl, rfl⟩
  clear CC CS
  have CO := Lib.hid (fun ty => or_any w4.heap.size c d z (w4.alloc (.cells #[.int .i64 c, .int .i64 d] ty)) (by rw [World.cell?_alloc_new]; rfl) (by rw [World.cell?_alloc_new]; rfl) HZ.out.symm)
  have HA := Lib.hid (fun ty => HB2.out.trans (((Below.refl _ _).alloc (Nat.le_refl _) (.cells #[.int .i64 c, .int .i64 d] ty) : Below w4.heap.size w4 _).mono HB2.out.size))
  go_wp2_with fail
  refine (CO.out _).mono ?_
  rintro e w5 ⟨rfl, rfl⟩
  go_wp2
  go_ret
  exact ⟨rfl, HA.out _⟩

theorem putRow_under {B : Nat} {w0 w : World} {g q : Nat} {d : Array (List UInt8)} (h : Below B w0 w) (hg : B ≤ g) : Below B w0 (Sort.putRow encStr (Sort.ahead w q) g 0 d) := Lib.below_putRow h hg
theorem reverse_own (v : Value) (ls : List (List UInt8)) (w0 w : World) (B : Nat) (hb : Below B w0 w) (ho : OwnS w B v ls) (hn : ls.length ≤ 1000000) :
    Calls Tryd.prog 24 #[v] w fun e w' => e = .returned (.tuple #[]) ∧ OwnS w' B v ls.reverse ∧ Below B w0 w' := by
  by_cases hnil : v = .slice none 0 0
  · subst hnil
    have h0 : ls = [] := by
      rcases ho.2 with ⟨_, h⟩ | ⟨_, _, _, e, _⟩
      · exact List.length_eq_zero_iff.1 h
      · cases e
    subst h0
    refine (Tryd.slices_Reverse_string_empty none 0 w).mono ?_
    rintro e w' ⟨rfl, rfl⟩
    exact ⟨rfl, OwnS.nil _ _, hb⟩
  · obtain ⟨blk, cap, rfl, hbg, hgl, hncap, hcm, hlen, hH⟩ := Lib.holds_of_ownsRow ho hnil
    have h := Tryd.slices_Reverse_string blk 0 cap ls w hH (by omega)
    refine h.mono ?_
    rintro e w' ⟨rfl, q, rfl⟩
    refine ⟨rfl, ?_, putRow_under hb hbg⟩
    have hc := Lib.ownsRow_putRow (q := q) (k := ls.length) (ys := ls.reverse) ho (by simp) (by omega)
    rw [List.take_of_length_le (by simp)] at hc
    unfold OwnS
    rw [List.length_reverse]
    exact hc
theorem joined_le {p : List UInt8} (m : Nat) : (joinB ((names nameP p).take m)).length ≤ 200 := by
  by_cases h : names nameP p = []
  · rw [h]; simp [joinB]
  · have h1 := join_take_le (names nameP p) m
    rw [join_names nameP h] at h1
    have := (names_pieces nameP h).2.1
    omega
def lenV : Value → Nat
  | .slice _ k _ => k
  | _ => 0
set_option maxHeartbeats 2000000 in
set_option maxRecDepth 100000 in
theorem ups_c : UpsC := by
  intro s w hs
  have C0 := dir_c s w hs
  rw [dir_is] at C0
  obtain ⟨n, hn⟩ : ∃ n, names nameP s.data.toList = n := ⟨_, rfl⟩
  have hl := pnames_len s
  unfold pnames at hl
  rw [hn] at C0 hl
  have C := Lib.hid C0
  have HN := Lib.hid hn
  have HR : Hid ((downs n (n.length - 1)).reverse = upsP nameP s.data.toList) := by
    show _ = _
    rw [← hn, downs_rev]
  clear C0 hn
  refine Calls.mono (R := fun e w' => ∃ v, e = .returned v ∧ OwnS w' w.heap.size v (upsP nameP s.data.toList) ∧ Below w.heap.size w w') ?_ fun e w' h => own_row h
  go_enter Tryd.func10, Tryd.ntmps10
  go_wp2_with fail
  refine C.out.mono ?_
  rintro e w1 ⟨rfl, hb⟩
  have HB := Lib.hid hb
  clear hb
  go_wp2
  go_loopw [3, 4] (fun v uv wr => ∃ (j cap : Nat) (A : Option Addr) (t : ByteArray), j ≤ n.length - 1 ∧ v = .slice A j cap ∧ uv = .string t ∧ Hid (t = toB (joinB (n.take (n.length - 1 - j)))) ∧ Hid (OwnS wr w.heap.size (.slice A j cap) (downs n j)) ∧ Hid (Below w.heap.size w wr)) (fun v _ _ => 20 - lenV v)
  case atStart => exact ⟨0, 0, none, _, Nat.zero_le _, rfl, rfl, rfl, OwnS.nil _ _, HB.out⟩
  case round =>
    obtain ⟨j, cap, A, t, hj, rfl, rfl, ht, hown, hb⟩ := hrel
    by_cases hlt : j < n.length - 1
    · have hm1 : 1 ≤ n.length - 1 - j := by omega
      have hm2 : n.length - 1 - j ≤ n.length := by omega
      have hne0 := join_take_ne (nm := nameP) nameP_empty (p := s.data.toList) hm1 (by rw [HN.out]; exact hm2) (fun x hx => nameP_slash hx)
      have hdt := dir_take (nm := nameP) (fun x hx => nameP_slash hx) (p := s.data.toList) hm1 (by rw [HN.out]; exact hm2)
      have hjl := joined_le (p := s.data.toList) (n.length - 1 - j)
      rw [HN.out] at hne0 hdt hjl
      have htl : t.data.toList = joinB (n.take (n.length - 1 - j)) := by rw [ht.out, of_toB]
      have hts : t.size ≤ 100000 := by
        have : t.data.toList.length = t.size := by simp
        rw [htl] at this
        omega
      have hnel : ¬ (t.toList = []) := by rw [toList_eq, htl]; exact hne0
      have hneb : (t.toList == []) = false := by simpa using hnel
      have CD0 := fun w => dir_c t w hts
      rw [htl, hdt, show n.length - 1 - j - 1 = n.length - 1 - (j + 1) by omega] at CD0
      have CD := Lib.hid CD0
      have hds := downs_succ n j
      rw [← htl] at hds
      obtain ⟨x, hx⟩ : ∃ x, t.data.toList = x := ⟨_, rfl⟩
      rw [hx] at hds
      have hal : Below wr.heap.size wr (wr.alloc (.cells #[.string t] 9)) := (Below.refl _ _).alloc (Nat.le_refl _) _
      have HO := Lib.hid (hown.out.kept hal)
      have HS0 := strs_one wr t
      rw [hx] at HS0
      have HS := Lib.hid HS0
      have HBA := Lib.hid (hb.out.trans (hal.mono hb.out.size))
      have hbs : w.heap.size ≤ (wr.alloc (.cells #[.string t] 9)).heap.size := HBA.out.size
      have HDS := Lib.hid hds
      obtain ⟨t2, ht2⟩ : ∃ t2, toB (joinB (n.take (n.length - 1 - (j + 1)))) = t2 := ⟨_, rfl⟩
      rw [ht2] at CD
      have HT2 := Lib.hid ht2
      have hdl : (downs n j).length = j := downs_len n j
      have HDL := Lib.hid hdl
      clear hds hdl ht2 hx HS0 hal CD0 htl hne0 hdt hjl ht hown hb
      go_wp2_with (at_builtin; refine wpList_append_row rfl _ _ rfl w.heap.size _ (downs n j) [x] rfl HO.out (some ⟨wr.heap.size, 0, none⟩) 1 1 rfl rfl (fun h => by cases h) HS.out hbs (by rw [HDL.out]; simp; omega) (j + 1) (by rw [HDL.out]; rfl) ?_)
      intro A4 cap4 w4 ho4 hs4 hg4
      have HB4 := Lib.hid (below_append HBA.out HO.out hg4 (Nat.le_refl _))
      rw [← HDS.out] at ho4
      have HO4 := Lib.hid ho4
      clear ho4 hs4 hg4 HO HS HBA
      go_wp2_with fail
      refine (CD.out _).mono ?_
      rintro e w5 ⟨rfl, hb5⟩
      have HB5 := Lib.hid (HB4.out.trans (hb5.mono HB4.out.size))
      have HO5 := Lib.hid (HO4.out.kept hb5)
      clear hb5 HB4 HO4
      go_wp2
      go_roundw
      case rel => exact ⟨j + 1, cap4, A4, t2, by omega, rfl, rfl, HT2.out.symm, HO5.out, HB5.out⟩
      case measure => simp [lenV] <;> omega
    · obtain rfl : j = n.length - 1 := by omega
      have ht0 : t = ⟨#[]⟩ := by
        rw [ht.out, Nat.sub_self, List.take_zero]
        rfl
      subst ht0
      have CR0 := reverse_own _ _ w wr w.heap.size hb.out hown.out (by rw [downs_len]; omega)
      rw [HR.out] at CR0
      have CR := Lib.hid CR0
      clear CR0 hown hb ht
      generalize n.length - 1 = j at *
      go_wp2_with fail
      refine CR.out.mono ?_
      rintro e w6 ⟨rfl, ho6, hb6⟩
      have HO6 := Lib.hid ho6
      have HB6 := Lib.hid hb6
      clear ho6 hb6
      go_wp2
      go_ret
      exact ⟨_, rfl, HO6.out, HB6.out⟩
end Go.Proofs.YthonklioandplaaDoor
