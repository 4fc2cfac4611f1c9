
/- Package ident's Parse: strings.Cut at a number sign, strconv.Atoi. -/
import Derived.Test.YthenlajknoddcaaGreatDoorIdText
namespace Go.Proofs.YthenlajknoddcaaGreatDoor
open Go.RowKit
set_option linter.unusedVariables false

set_option maxHeartbeats 2000000 in
set_option maxRecDepth 100000 in
theorem lcut_any (s : ByteArray) (w : World) (hs : s.size ≤ 1000000) :
    Calls Tryz.prog 48 #[.string s, .string ⟨#[35]⟩] w fun e w' => ∃ (p d : ByteArray) (b : Bool), e = .returned (.tuple #[.string p, .string d, .bool b]) ∧ Hid (CutIs s.data.toList p.data.toList d.data.toList ∧ p.size ≤ s.size ∧ d.size ≤ s.size) ∧ Below w.heap.size w w' := by
  have CI := Lib.hid (fun W => Tryz.stringslite_Index_one s 35 W)
  have hge := Lib.indexByte_ge s.data.toList 35
  have hB : ∀ q, Hid (Below w.heap.size w (w.drewN q)) := fun q => below_drewN (Below.refl _ _) q
  by_cases hi : Lib.indexByte s.data.toList 35 = -1
  · rw [hi] at CI
    have HC : Hid (CutIs s.data.toList s.data.toList (⟨#[]⟩ : ByteArray).data.toList ∧ s.size ≤ s.size ∧ (⟨#[]⟩ : ByteArray).size ≤ s.size) :=
      ⟨.inl ⟨rfl, rfl, fun h => by
        obtain ⟨k, hk, e⟩ := List.getElem_of_mem h
        exact Lib.indexByte_none hi k (by rw [List.getElem?_eq_getElem hk, e])⟩, Nat.le_refl _, Nat.zero_le _⟩
    clear hge hi
    go_enter Tryz.func48, Tryz.ntmps48
    go_wp2_with fail
    refine (CI.out _).mono ?_
    rintro e w1 ⟨rfl, hw⟩
    have hw := hw.symm
    subst hw
    go_wp2
    go_ret3
    exact ⟨_, _, _, rfl, HC, (hB 0).out⟩
  · obtain ⟨i, hix⟩ : ∃ i : Nat, Lib.indexByte s.data.toList 35 = (i : Int) := ⟨(Lib.indexByte s.data.toList 35).toNat, by omega⟩
    obtain ⟨h1, h2⟩ := Lib.indexByte_some hix
    have hlt : i < s.size := by
      have := (List.getElem?_eq_some_iff.1 h1).1
      rwa [Array.length_toList] at this
    rw [hix] at CI
    have hs0 : (⟨#[35]⟩ : ByteArray).size = 1 := rfl
    have HC : Hid (CutIs s.data.toList (s.extract 0 i).data.toList (s.extract (i + 1) s.size).data.toList ∧ (s.extract 0 i).size ≤ s.size ∧ (s.extract (i + 1) s.size).size ≤ s.size) := by
      refine ⟨.inr ⟨?_, fun h => ?_⟩, by rw [ByteArray.size_extract]; omega, by rw [ByteArray.size_extract]; omega⟩
      · have e1 : (s.extract 0 i).data.toList = s.data.toList.take i := by simp
        have e2 : (s.extract (i + 1) s.size).data.toList = s.data.toList.drop (i + 1) := by
          simp only [ByteArray.data_extract, Array.toList_extract, List.extract_eq_take_drop]
          rw [List.take_of_length_le]
          rw [List.length_drop, Array.length_toList]
          exact Nat.le_refl _
        rw [e1, e2]
        have e3 : i < s.data.toList.length := by rw [Array.length_toList]; exact hlt
        have e4 : s.data.toList[i] = 35 := by
          rw [List.getElem?_eq_getElem e3] at h1
          exact Option.some.inj h1
        have e5 := List.drop_eq_getElem_cons e3
        rw [e4] at e5
        rw [← e5, List.take_append_drop]
      · have e1 : (s.extract 0 i).data.toList = s.data.toList.take i := by simp
        rw [e1] at h
        obtain ⟨k, hk, e⟩ := List.getElem_of_mem h
        rw [List.length_take] at hk
        rw [List.getElem_take] at e
        exact h2 k (by omega) (by rw [List.getElem?_eq_getElem (by omega), e])
    have c0 : (0 : Int) ≤ (i : Int) := by omega
    have c1 : (i : Int) ≤ (s.size : Int) := by omega
    have c2 : IntKind.i64.wrap ((i : Int) + 1) = (i : Int) + 1 := IntWalk.i64_in _ (by omega)
    have c3 : (0 : Int) ≤ (i : Int) + 1 := by omega
    have c4 : (i : Int) + 1 ≤ (s.size : Int) := by omega
    clear hge hi h1 h2 hix
    go_enter Tryz.func48, Tryz.ntmps48
    go_wp2_with fail
    refine (CI.out _).mono ?_
    rintro e w1 ⟨rfl, hw⟩
    have hw := hw.symm
    subst hw
    go_wp2_with fail
    -- @P1
    go_region
    go_wp2
    go_ret3
    exact ⟨_, _, _, rfl, HC, (hB 1).out⟩
set_option maxHeartbeats 2000000 in
set_option maxRecDepth 100000 in
theorem cut_any (s : ByteArray) (w : World) (hs : s.size ≤ 1000000) :
    Calls Tryz.prog 32 #[.string s, .string ⟨#[35]⟩] w fun e w' => ∃ (p d : ByteArray) (b : Bool), e = .returned (.tuple #[.string p, .string d, .bool b]) ∧ Hid (CutIs s.data.toList p.data.toList d.data.toList ∧ p.size ≤ s.size ∧ d.size ≤ s.size) ∧ Below w.heap.size w w' := by
  have C := Lib.hid (lcut_any s w hs)
  go_enter Tryz.func32, Tryz.ntmps32
  go_wp2_with fail
  refine C.out.mono ?_
  rintro e w1 ⟨p, d, b, rfl, hc, hb⟩
  have HB := Lib.hid hb
  clear hb C
  go_wp2
  go_ret3
  exact ⟨_, _, _, rfl, hc, HB.out⟩
/-- What Atoi tells: the number, or an error. -/
def AtoiLeft (d : List UInt8) (e : Ending) : Prop := (∃ v, Lib.atoiAll d = .ok v ∧ e = .returned (.tuple #[.int .i64 v, .nilIface])) ∨ ∃ (v : Int) (te : TypeId) (pe : Value), (∀ u, Lib.atoiAll d ≠ .ok u) ∧ e = .returned (.tuple #[.int .i64 v, .iface te pe])
/-- An error comes back. -/
def ErrLeft (w : World) (e : Ending) (w' : World) : Prop := (∃ (v : Int) (te : TypeId) (pe : Value), e = .returned (.tuple #[.int .i64 v, .iface te pe])) ∧ Below w.heap.size w w'
theorem atoi_any (s : ByteArray) (w : World) (hT : Nums w) (hs : s.size ≤ 1000000) : Calls Tryz.prog 33 #[.string s] w fun e w' => Hid (AtoiLeft s.data.toList e) ∧ Below w.heap.size w w' := by
  cases h : Lib.atoiAll s.data.toList
  · rename_i v
    refine (Tryz.strconv_Atoi_ok s (by omega) v h w).mono ?_
    rintro e w' ⟨rfl, hw⟩
    refine ⟨.inl ⟨v, h, rfl⟩, ?_⟩
    rcases hw with rfl | ⟨t, rfl⟩
    · exact Below.refl _ _
    · exact Joins.below_bytesWorld _ _ _ _ (Nat.le_refl _)
  · obtain ⟨ev, h1, h2⟩ := hT.syn
    have hc : Calls Tryz.prog 33 #[.string s] w (ErrLeft w) := (Any.strconv_Atoi_syntax Tryz.laysC172 s (by omega) h ev w h1 h2).mono (by
      rintro e w' ⟨N, rfl, _, _, hb⟩
      exact ⟨⟨_, _, _, rfl⟩, hb⟩)
    refine hc.mono ?_
    rintro e w' ⟨⟨v, te, pe, rfl⟩, hb⟩
    exact ⟨.inr ⟨v, te, pe, (fun u e => by rw [h] at e; cases e), rfl⟩, hb⟩
  · obtain ⟨ev, h1, h2⟩ := hT.rng
    have hc : Calls Tryz.prog 33 #[.string s] w (ErrLeft w) := (Any.strconv_Atoi_range Tryz.laysC172 s (by omega) h ev w h1 h2).mono (by
      rintro e w' ⟨N, rfl, _, _, hb⟩
      exact ⟨⟨_, _, _, rfl⟩, hb⟩)
    refine hc.mono ?_
    rintro e w' ⟨⟨v, te, pe, rfl⟩, hb⟩
    exact ⟨.inr ⟨v, te, pe, (fun u e => by rw [h] at e; cases e), rfl⟩, hb⟩
/-- What Parse leaves. -/
def ParseLeft (s : ByteArray) (w : World) (e : Ending) (w' : World) : Prop := ∃ (z : Im) (er : Int), e = .returned (.tuple #[z.val, .int .i64 er]) ∧ Hid (ParseK s.data.toList z.key er) ∧ Below w.heap.size w w'
set_option maxHeartbeats 4000000 in
set_option maxRecDepth 100000 in
theorem idparse_any (s : ByteArray) (w : World) (hT : Nums w) (hs : s.size ≤ 1000000) : Calls Tryz.prog 18 #[.string s] w (ParseLeft s w) := by
  obtain ⟨hb0, hr0⟩ := id_box w ⟨⟨#[]⟩, 0⟩
  have HR := Lib.hid hr0
  have HB := Lib.hid hb0
  have HT := Lib.hid (hT.on hb0)
  have CC := Lib.hid (fun W => cut_any s W hs)
  clear hb0 hr0 hT
  go_enter Tryz.func18, Tryz.ntmps18
  go_wp2_with fail
  generalize (w.alloc (.cells #[.string ⟨#[]⟩, .int .i64 0] 24)) = w0 at *
  refine (CC.out _).mono ?_
  rintro e w1 ⟨p, d, b, rfl, hc, hb⟩
  have HR1 := Lib.hid (HR.out.on hb)
  have HT1 := Lib.hid (HT.out.on hb)
  have HB1 := Lib.hid (HB.out.trans (hb.mono HB.out.size))
  have hp6 : p.size ≤ 1000000 := Nat.le_trans hc.out.2.1 hs
  have CA := Lib.hid (atoi_any d w1 HT1.out (Nat.le_trans hc.out.2.2 hs))
  have HC : Hid (CutIs s.data.toList p.data.toList d.data.toList) := hc.out.1
  clear hb CC HR HT HB hc
  go_wp2_with fail
  refine CA.out.mono ?_
  rintro e w2 ⟨ha, hb⟩
  have HR2 := Lib.hid (HR1.out.on hb)
  have HT2 := Lib.hid (HT1.out.on hb)
  have HB2 := Lib.hid (HB1.out.trans (hb.mono HB1.out.size))
  clear hb CA HR1 HT1 HB1
  rcases ha.out with ⟨v, hv, rfl⟩ | ⟨v, te, pe, hv, rfl⟩
  · obtain ⟨hbx, hx⟩ := id_box w2 ⟨p, v⟩
    have HX := Lib.hid hx
    have HR3 := Lib.hid (HR2.out.on hbx)
    have HB3 := Lib.hid (HB2.out.trans (hbx.mono HB2.out.size))
    have CT := Lib.hid (idtext_any ⟨p, v⟩ _ (HT2.out.on hbx) hp6)
    have hgg : w.heap.size < w2.heap.size := HR2.out.lt
    have HK : Hid (∀ h : textK (p.data.toList, v) = s.data.toList, ParseK s.data.toList (p.data.toList, v) 0) := fun h => parse_ok HC.out hv h
    have HN : Hid (∀ h : textK (p.data.toList, v) ≠ s.data.toList, ParseK s.data.toList ([], 0) 6) := fun h => parse_no HC.out fun u hu => by
      rw [hv] at hu
      injection hu with hu
      subst hu
      exact h
    clear ha hv hbx hx HR2 HT2 HB2 HC hp6
    unfold Im.val at CT
    simp only at CT
    -- @P1
    go_upto_region 4 with (fail)
    generalize (w2.alloc (.cells #[.string p, .int .i64 v] 24)) = w3 at *
    generalize hgx : w2.heap.size = gx at *
    have x0 := id_c0 HX.out
    have x1 := id_c1 HX.out
    obtain ⟨tt, htt⟩ : ∃ tt, toB (textK (p.data.toList, v)) = tt := ⟨_, rfl⟩
    rw [show toB (textK (Im.key ⟨p, v⟩)) = tt from htt] at CT
    have HTT := Lib.hid htt
    clear hgx htt
    go_wp2_with fail
    refine CT.out.mono ?_
    rintro e w4 ⟨rfl, hb⟩
    have hX4 := HX.out.on hb
    have hR4 := HR3.out.on hb
    have x0 := id_c0 hX4
    have x1 := id_c1 hX4
    have r0 := id_c0 hR4
    have r1 := id_c1 hR4
    have f0 := Rk.At.fz hR4 0
    have f1 := Rk.At.fz hR4 1
    have HB4 := Lib.hid (HB3.out.trans (hb.mono HB3.out.size))
    have HSET := Lib.hid (id_set hR4)
    have HBEL := Lib.hid (fun (q : ByteArray) (n : Int) => id_below (g := w.heap.size) q n HB4.out (Nat.le_refl _) HB4.out.size)
    clear hb CT HX HR3 HB3 hX4 hR4
    by_cases hts : tt = s
    · have hps := HK.out (by have h := HTT.out; rw [hts] at h; rw [← of_toB (textK _), h])
      have HP := Lib.hid hps
      subst hts
      have n1 := str_eqb tt
      have HFS := Lib.hid (HSET.out p v)
      have HFB := Lib.hid (HBEL.out p v)
      clear hps HK HN HTT HSET HBEL
      go_wp2
      (try simp only [Exit.inBlock, Exit.then])
      refine bodyPost_ret (ret_id2 rfl _ _ _ ⟨p, v⟩ (.int .i64 0) rfl rfl HFS.out) rfl ?_
      exact ⟨⟨p, v⟩, 0, rfl, HP.out, HFB.out⟩
    · have hps := HN.out (fun h => hts (by rw [← HTT.out, h, toB_of]))
      have HP := Lib.hid hps
      have n1 := str_ne hts
      have HFS := Lib.hid (HSET.out ⟨#[]⟩ 0)
      have HFB := Lib.hid (HBEL.out ⟨#[]⟩ 0)
      clear hps HK HN HTT HSET HBEL hts
      go_wp2
      (try simp only [Exit.inBlock, Exit.then])
      refine bodyPost_ret (ret_id2 rfl _ _ _ ⟨⟨#[]⟩, 0⟩ (.int .i64 6) rfl rfl HFS.out) rfl ?_
      exact ⟨⟨⟨#[]⟩, 0⟩, 6, rfl, HP.out, HFB.out⟩
  · obtain ⟨hbx, hx⟩ := id_box w2 ⟨p, v⟩
    have hR3 := HR2.out.on hbx
    have r0 := id_c0 hR3
    have r1 := id_c1 hR3
    have f0 := Rk.At.fz hR3 0
    have f1 := Rk.At.fz hR3 1
    have hB3 := HB2.out.trans (hbx.mono HB2.out.size)
    have HFS := Lib.hid (id_set hR3 ⟨#[]⟩ 0)
    have HFB := Lib.hid (id_below (g := w.heap.size) ⟨#[]⟩ 0 hB3 (Nat.le_refl _) hB3.size)
    have HP : Hid (ParseK s.data.toList ([], 0) 6) := parse_no HC.out fun u hu => absurd hu (hv u)
    clear ha hv hbx hx HR2 HT2 HB2 HC hp6 hR3 hB3
    go_upto_region 4 with (fail)
    generalize (w2.alloc (.cells #[.string p, .int .i64 v] 24)) = w3 at *
    go_wp2
    (try simp only [Exit.inBlock, Exit.then])
    refine bodyPost_ret (ret_id2 rfl _ _ _ ⟨⟨#[]⟩, 0⟩ (.int .i64 6) rfl rfl HFS.out) rfl ?_
    exact ⟨⟨⟨#[]⟩, 0⟩, 6, rfl, HP.out, HFB.out⟩
end Go.Proofs.YthenlajknoddcaaGreatDoor
