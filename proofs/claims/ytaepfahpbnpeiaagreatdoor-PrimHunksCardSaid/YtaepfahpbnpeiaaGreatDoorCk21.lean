/- The reference's Apply of layer 4. Rows of hunks that a call makes: append. -/
import Derived.Test.YtaepfahpbnpeiaaGreatDoorCk13
import Derived.Test.YtaepfahpbnpeiaaGreatDoorCk20
import Derived.Test.YtaepfahpbnpeiaaGreatDoorCk19
import Derived.Deep.AppendLies
namespace Go.Proofs.YtaepfahpbnpeiaaGreatDoor
open Go.RowKit
set_option linter.unusedVariables false

def plains (hs : List Hm) : List (Hk (List UInt8)) := hs.map Hm.plain
/-- Do all hunks stand? -/
def standB (la : List (List UInt8)) (hs : List Hm) : Bool := hs.all fun h => atB la h.old h.at_
theorem atB_stands {la : List (List UInt8)} {h : Hm} (h0 : 0 ≤ h.at_) : atB la h.old h.at_ = true ↔ Stands la h.plain := by
  obtain ⟨k, hk⟩ : ∃ k : Nat, h.at_ = (k : Int) := ⟨h.at_.toNat, by omega⟩
  unfold Stands Hm.plain
  simp only [hk, Int.toNat_natCast]
  unfold atB
  simp only [Bool.and_eq_true, decide_eq_true_eq, Int.toNat_natCast]
  constructor
  · rintro ⟨⟨_, h2⟩, h3⟩
    exact ⟨by omega, h3⟩
  · rintro ⟨h2, h3⟩
    exact ⟨⟨by omega, by omega⟩, h3⟩
theorem drop_may : ∀ (l : List (Hk (List UInt8))) (k : Nat), May l → May (l.drop k)
  | l, 0, h => h
  | [], k + 1, h => trivial
  | g :: l, k + 1, h => drop_may l k h.2.2
theorem drop_from {l : List (Hk (List UInt8))} {k : Nat} (h : May l) (hk : k < l.length) : From (l[k].at_ + l[k].old.length + 1) (l.drop (k + 1)) := by
  have := drop_may l k h
  rw [List.drop_eq_getElem_cons hk] at this
  exact this.2.1
/-- What stands ahead of a hunk stays, when those behind it are done. -/
theorem refApp_keeps {la : List (List UInt8)} {l : List (Hk (List UInt8))} {i : Nat} (hi : i ≤ la.length) (hf : From i l) (hm : May l) (hs : ∀ h ∈ l, Stands la h) : ∃ b, refApp la l = la.take i ++ b := by
  obtain ⟨b, hb⟩ := stands_done la l i hi hf hm hs
  have := done_app (p := la.take i) (by rw [List.length_take]; omega) hb
  rw [List.take_append_drop] at this
  exact ⟨b, this⟩
theorem refApp_len {la : List (List UInt8)} : ∀ (l : List (Hk (List UInt8))), (refApp la l).length ≤ la.length + sumNew l
  | [] => by simp [refApp, sumNew]
  | h :: l => by
    have ih := refApp_len (la := la) l
    rw [refApp, List.length_append, List.length_append, List.length_take, List.length_drop]
    simp only [sumNew, List.map_cons, List.sum_cons] at ih ⊢
    omega

theorem mem_sum : ∀ {l : List (Hk (List UInt8))} {h : Hk (List UInt8)}, h ∈ l → h.new.length ≤ sumNew l
  | g :: l, h, hh => by
    simp only [sumNew, List.map_cons, List.sum_cons]
    rcases List.mem_cons.1 hh with rfl | hh
    · omega
    · have := mem_sum hh
      simp only [sumNew] at this
      omega
/-- What Apply of the reference leaves. -/
def Appl (w : World) (la : List (List UInt8)) (hs : List Hm) (e : Ending) (w' : World) : Prop :=
  ∃ A cap l d, e = .returned (.tuple #[.slice A (List.length (α := List UInt8) l) cap, .bool d]) ∧ (d = standB la hs ∧ (d = true → l = refApp la (plains hs)) ∧ (d = false → l = [])) ∧ Room A l.length cap ∧ Strs w' w'.heap.size A (toBs l) ∧ Below w.heap.size w w'

set_option maxHeartbeats 1000000 in
set_option maxRecDepth 100000 in
theorem refapply_any (A A2 : Option Addr) (la : List (List UInt8)) (hs : List Hm) (cap cap2 : Nat) (w : World) (hA : Strs w w.heap.size A (toBs la)) (hR : Room A la.length cap) (hk : Hks w w.heap.size A2 hs) (hm : mayB hs = true) (hn : la.length + sumNew (plains hs) ≤ 300000) (hsm : Small hs) :
    Calls Tryz.prog 35 #[.slice A la.length cap, .slice A2 hs.length cap2] w (Appl w la hs) := by
  obtain ⟨hpos, hmay, _⟩ := mayF_plain hs none hm
  have HA := Lib.hid hA
  have HR := Lib.hid hR
  have HK := Lib.hid hk
  have HP := Lib.hid hpos
  have HM : Hid (May (plains hs)) := hmay
  have HS := Lib.hid hsm.2
  have HL := hsm.1
  clear hA hR hk hpos hmay hm hsm
  have hla : la.length ≤ 300000 := by omega
  have HN := Lib.hid hn
  clear hn
  go_enter Tryz.func35, Tryz.ntmps35
  go_wp2_with (at_builtin; refine wpList_append_row rfl _ _ rfl w.heap.size _ [] la rfl (own_made w w.heap.size (Nat.le_refl _)) A cap la.length rfl rfl HR.out.1 (HA.out.on ((Below.refl _ w).alloc (Nat.le_refl _) _)) (by simp) (by simp; omega) la.length (by simp) ?_)
  intro A3 cap3 w3 ho3 hs3 hg3
  obtain ⟨_, hr3, _⟩ := ho3.at_
  have hb3 : Below w.heap.size w w3 := ((Below.refl _ w).alloc (Nat.le_refl _) _).grown hg3 (by simp) fun k hk => by simp [Value.ownBlock] at hk; omega
  have HS3 := Lib.hid hs3
  have HR3 := Lib.hid hr3
  clear ho3 hs3 hg3 hr3
  go_wp2_with fail
  go_loopw [6, 7] (fun v i wr => ∃ (n : Int) (A4 : Option Addr) (cap4 : Nat) (ls : List (List UInt8)), i = .int .i64 n ∧ v = .slice A4 ls.length cap4 ∧ -1 ≤ n ∧ n < hs.length ∧ Hid (ls = refApp la (plains (hs.drop (n + 1).toNat))) ∧
      Hid (∀ j (hj : j < hs.length), n < j → atB la hs[j].old hs[j].at_ = true) ∧ Hid (Strs wr wr.heap.size A4 (toBs ls)) ∧ Hid (Room A4 ls.length cap4) ∧ Below w.heap.size w wr) (fun _ i _ => (intOf i + 1).toNat)
  case atStart =>
    refine ⟨(hs.length : Int) - 1, A3, cap3, la, rfl, rfl, by omega, by omega, ?_, fun j hj h => absurd h (by omega), HS3.out, HR3.out, hb3⟩
    show _ = _
    rw [show ((hs.length : Int) - 1 + 1).toNat = hs.length by omega, List.drop_length]
    rfl
  case round =>
    obtain ⟨n, A4, cap4, ls, rfl, rfl, hn0, hn1, hls, hall, hst, hro, hb⟩ := hrel
    clear hb3
    by_cases hneg : n < 0
    · obtain rfl : n = -1 := by omega
      have hfin : Hid (ls = refApp la (plains hs)) := by show _ = _; rw [hls.out]; rfl
      have hd : Hid (true = standB la hs) := by
        show _ = _
        refine Eq.symm (List.all_eq_true.2 fun h hh => ?_)
        obtain ⟨j, hj, rfl⟩ := List.getElem_of_mem hh
        exact hall.out j hj (by omega)
      clear hls hall
      go_wp2
      go_ret2
      exact ⟨A4, cap4, ls, true, rfl, ⟨hd.out, fun _ => hfin.out, fun e => by cases e⟩, hro.out, hst.out, hb⟩
    · obtain ⟨k, rfl⟩ : ∃ k : Nat, n = (k : Int) := ⟨n.toNat, by omega⟩
      have hlt : k < hs.length := by omega
      have hK := HK.out.on hb
      obtain ⟨b, off, rfl, hbl, h1, h2, h3⟩ := hK.get hlt
      have ok := hK.ok hs[k] (List.getElem_mem _)
      have hp := HP.out hs[k] (List.getElem_mem _)
      obtain ⟨s1, s2⟩ := HS.out hs[k] (List.getElem_mem _)
      have hno : Hid (atB la hs[k].old hs[k].at_ = false → false = standB la hs) := by
        intro h
        refine Eq.symm (List.all_eq_false.2 ⟨hs[k], List.getElem_mem _, by rw [h]; simp⟩)
      by_cases hbig : (la.length : Int) < hs[k].at_
      · have hf : Hid (false = standB la hs) := hno.out (by simp [atB]; omega)
        clear hno hls hall ok hK
        generalize hs[k].at_ = at_ at *
        go_wp2
        go_ret2
        exact ⟨none, 0, [], false, rfl, ⟨hf.out, fun e => (by cases e), fun _ => rfl⟩, ⟨fun _ => rfl, Nat.le_refl _⟩, fun h => absurd h (by simp [toBs]), (hb.alloc (by have := hb.size; omega) _)⟩
      · obtain ⟨a, ha⟩ : ∃ a : Nat, hs[k].at_ = (a : Int) := ⟨hs[k].at_.toNat, by omega⟩
        have hstep : Hid (atB la hs[k].old hs[k].at_ = true → (a + hs[k].old.length ≤ ls.length ∧ refApp la (plains (hs.drop k)) = ls.take a ++ hs[k].new ++ ls.drop (a + hs[k].old.length)) ∧ (∀ j (hj : j < hs.length), (k : Int) - 1 < j → atB la hs[j].old hs[j].at_ = true)) := by
          intro hat
          have hall2 : ∀ j (hj : j < hs.length), (k : Int) - 1 < j → atB la hs[j].old hs[j].at_ = true := by
            intro j hj hkj
            by_cases e : j = k
            · subst e; exact hat
            · exact hall.out j hj (by omega)
          have hst := (atB_stands hp).1 hat
          have hd : plains (hs.drop k) = hs[k].plain :: plains (hs.drop (k + 1)) := by rw [hk_drop hs k hlt]; rfl
          have hls2 : ls = refApp la (plains (hs.drop (k + 1))) := by rw [hls.out]; rfl
          have hmay := drop_may (plains hs) k HM.out
          rw [show (plains hs).drop k = plains (hs.drop k) by simp [plains, List.map_drop], hd] at hmay
          obtain ⟨b2, hb2⟩ := refApp_keeps (la := la) (l := plains (hs.drop (k + 1))) (i := hs[k].plain.at_ + hs[k].plain.old.length) hst.1 (hmay.2.1.mono (by omega)) hmay.2.2 (by
            intro g hg
            obtain ⟨x, hx, rfl⟩ := List.mem_map.1 hg
            obtain ⟨j, hj, rfl⟩ := List.getElem_of_mem hx
            rw [List.length_drop] at hj
            rw [List.getElem_drop]
            exact (atB_stands (HP.out _ (List.getElem_mem _))).1 (hall2 _ (by omega) (by omega)))
          have e1 : hs[k].plain.at_ = a := by simp [Hm.plain, ha]
          have e2 : hs[k].plain.old = hs[k].old := rfl
          have e3 : hs[k].plain.new = hs[k].new := rfl
          have hstl := hst.1
          rw [e1, e2] at hb2 hstl
          refine ⟨⟨?_, ?_⟩, hall2⟩
          · rw [hls2, hb2, List.length_append, List.length_take]; omega
          · rw [hd, refApp, e1, e2, e3, ← hls2, List.append_assoc]
        have hlen : ls.length ≤ 300000 := by
          have h5 := refApp_len (la := la) (plains (hs.drop (k + 1)))
          have h6 : sumNew (plains (hs.drop (k + 1))) ≤ sumNew (plains hs) := by
            have e : plains hs = plains (hs.take (k + 1)) ++ plains (hs.drop (k + 1)) := by rw [plains, plains, plains, ← List.map_append, List.take_append_drop]
            rw [e, sumNew, sumNew, List.map_append, List.sum_append]
            omega
          have h7 := HN.out
          have hls2 : ls = refApp la (plains (hs.drop (k + 1))) := by rw [hls.out]; rfl
          rw [← hls2] at h5
          omega
        have hnw : hs[k].new.length ≤ 300000 := by
          have : hs[k].plain.new.length ≤ sumNew (plains hs) := mem_sum (List.mem_map.2 ⟨hs[k], List.getElem_mem _, rfl⟩ : hs[k].plain ∈ plains hs)
          have h7 := HN.out
          simp only [Hm.plain] at this
          omega
        rw [ha] at hno hstep h1 hbig
        have cat := fun w1 (hb1 : Below w.heap.size w w1) (ho : Strs w1 w1.heap.size hs[k].a1 (toBs hs[k].old)) => refat_any A hs[k].a1 la hs[k].old cap hs[k].c1 a w1 (HA.out.on hb1) ho (by omega) s1 (by omega) (by omega)
        have HO := Lib.hid ok.old
        have HNw := Lib.hid ok.new
        have HR2 := Lib.hid ok.r2
        have hB := hb.size
        have hcells := Lib.hid (HunkAt.new_ wr ⟨(a : Int), hs[k].a1, hs[k].c1, hs[k].old, hs[k].a2, hs[k].c2, hs[k].new⟩)
        have hba : Below wr.heap.size wr (wr.alloc (.cells #[.int .i64 (a : Int), .slice hs[k].a1 hs[k].old.length hs[k].c1, .slice hs[k].a2 hs[k].new.length hs[k].c2] 55)) := (Below.refl _ _).alloc (Nat.le_refl _) _
        generalize hs[k].old = o at *
        generalize hs[k].new = nw at *
        generalize hs[k].a1 = x1 at *
        generalize hs[k].a2 = x2 at *
        generalize hs[k].c1 = x3 at *
        generalize hs[k].c2 = x4 at *
        clear ok hK hls hall hp
        cases hat : atB la o (a : Int) with
        | false =>
          have hf := Lib.hid (hno.out hat)
          rw [hat] at cat
          have CAT := Lib.hid cat
          have hb1 := hb.trans (hba.mono hB)
          have HO1 := Lib.hid (HO.out.on hba)
          clear hno hstep cat hat hcells hba
          go_wp2_with fail
          refine (CAT.out _ hb1 HO1.out).mono ?_
          rintro e w5 ⟨rfl, hb5⟩
          have hb6 := hb1.trans (hb5.mono hb1.size)
          clear hb5 hb1 HO1
          go_wp2
          go_ret2
          exact ⟨none, 0, [], false, rfl, ⟨hf.out, fun e => (by cases e), fun _ => rfl⟩, ⟨fun _ => rfl, Nat.le_refl _⟩, fun h => absurd h (by simp [toBs]), hb6⟩
        | true =>
          obtain ⟨⟨hle, happ⟩, hall2⟩ := hstep.out hat
          rw [hat] at cat
          have CAT := Lib.hid cat
          have hb1 := hb.trans (hba.mono hB)
          have HO1 := Lib.hid (HO.out.on hba)
          have HN1 := Lib.hid (HNw.out.on hba)
          have HS1 := Lib.hid (hst.out.on hba)
          have HAPP := Lib.hid happ
          have HALL := Lib.hid hall2
          clear hno hstep cat hat happ hall2 HO HNw hst
          go_wp2_with fail
          refine (CAT.out _ hb1 HO1.out).mono ?_
          rintro e w5 ⟨rfl, hb5⟩
          have hH5 := hcells.out.on hb5
          have f0 := (hH5.on ((Below.refl _ w5).alloc (Nat.le_refl _) (.cells #[] 9))).c0
          have hg5 := hH5.lt
          have HH5 := Lib.hid hH5
          have HN5 := Lib.hid (HN1.out.on hb5)
          have HS5 := Lib.hid (HS1.out.on hb5)
          have HS5b := Lib.hid (HS1.out.on hb5)
          have hb6 := hb1.trans (hb5.mono hb1.size)
          clear hH5 hcells HN1 HS1 HO1 hb5 hb1
          have hto : Room A4 a cap4 := ⟨hro.out.1, by have := hro.out.2; omega⟩
          have ht1 : (ls.take a).length = a := by rw [List.length_take]; omega
          have HT1 := Lib.hid ht1
          have ca : (a : Int) ≤ (cap4 : Int) := by have := hro.out.2; omega
          simp only at f0
          go_wp2_with (at_builtin; refine wpList_append_row rfl _ _ rfl w5.heap.size _ [] (ls.take a) rfl (own_made w5 _ (Nat.le_refl _)) A4 cap4 a rfl HT1.out.symm hto.1 ((HS5.out.take a).on ((Below.refl _ w5).alloc (Nat.le_refl _) _)) (by simp) (by simp; omega) a (by simp; omega) ?_)
          intro A6 cap6 w6 ho6 hs6 hg6
          have hgb : Below w5.heap.size w5 w6 := ((Below.refl _ w5).alloc (Nat.le_refl _) _).grown hg6 (by simp) fun k hk => by simp [Value.ownBlock] at hk; omega
          have hH6 := HH5.out.on hgb
          have f2 := hH6.c2
          have HH6 := Lib.hid hH6
          have HN6 := Lib.hid (HN5.out.on hgb)
          have HS6 := Lib.hid (HS5.out.on hgb)
          have HO6 := Lib.hid ho6
          have hB6 := hgb.size
          have hb7 := hb6.trans (hgb.mono hb6.size)
          have hnn := HR2.out.1
          have HNN := Lib.hid hnn
          clear hH6 HH5 HN5 HS5 ho6 hs6 hg6 hb7 f0 hnn ht1 ca
          simp only at f2
          have hlen2 : (ls.take a).length + nw.length ≤ 1000000 := by rw [HT1.out]; omega
          go_wp2_with (at_builtin; refine wpList_append_row rfl _ _ rfl w5.heap.size _ (ls.take a) nw rfl HO6.out x2 x4 nw.length rfl rfl HNN.out HN6.out hB6 hlen2 (a + nw.length) (by rw [HT1.out]) ?_)
          intro A7 cap7 w7 ho7 hs7 hg7
          have hne : (Value.slice A6 a cap6).ownBlock ≠ some wr.heap.size := HO6.out.ne hg5
          have hgb7 : Below w5.heap.size w5 w7 := hgb.grown hg7 hgb.size (fun k hk => ownBlock_ge HO6.out k hk)
          have hH7 : HunkAt w7 wr.heap.size _ := HH6.out.grown hg7 hne
          have f0 := hH7.c0
          have f1 := hH7.c1
          have HS7 := Lib.hid (HS5b.out.on hgb7)
          have HO7 := Lib.hid ho7
          have hB7 := hgb7.size
          have hro1 := Lib.hid hro.out.1
          have hro2 := hro.out.2
          clear hH7 HH6 HN6 HS6 HO6 ho7 hs7 hg7 hgb f2 hne hB6
          simp only at f0 f1
          have hl7 : (ls.take a ++ nw).length = a + nw.length := by rw [List.length_append, HT1.out]
          have HL7 := Lib.hid hl7
          have hlen3 : (ls.take a ++ nw).length + (ls.drop (a + o.length)).length ≤ 1000000 := by rw [hl7, List.length_drop]; omega
          have hdl : Hid ((ls.drop (a + o.length)).length = ls.length - (a + o.length)) := List.length_drop ..
          have ca : (a : Int) + (o.length : Int) ≤ (ls.length : Int) := by omega
          have cb : 0 ≤ (a : Int) + (o.length : Int) := by omega
          clear hl7
          have hnx : Hid (((k : Int) - 1 + 1).toNat = k) := by show _ = _; omega
          have HX3 : Hid (∀ N, N = (ls.take a ++ nw).length + (ls.drop (a + o.length)).length → N = (ls.take a ++ nw ++ ls.drop (a + o.length)).length) := by
            intro N h
            rw [h]; exact (List.length_append ..).symm
          have HD0 : Hid (ls.length ≤ a + o.length → ls.drop (a + o.length) = []) := fun h => List.drop_of_length_le h
          have hst8 := HS7.out.part (a + o.length) ls.length (A4.map fun x => x.add (a + o.length)) (fun b off e _ => by rw [e]; exact congrArg some (add_row b off _))
          rw [List.take_of_length_le (by simp)] at hst8
          have HS8 := Lib.hid hst8
          clear hst8 HT1
          generalize ls.take a ++ nw = X1 at *
          generalize ls.drop (a + o.length) = X2 at *
          obtain ⟨N, hN⟩ : ∃ N, N = X1.length + X2.length := ⟨_, rfl⟩
          have hX3 := HX3.out N hN
          have HN3 := Lib.hid hN
          have HLX := Lib.hid hX3
          have hN2 : X1.length + X2.length ≤ 1000000 := hlen3
          have hend : ∀ A8 cap8 w8, OwnS w8 w5.heap.size (.slice A8 N cap8) (X1 ++ X2) → Below w5.heap.size w5 w8 →
              ∃ (n : Int) (A4 : Option Addr) (cap4 : Nat) (l2 : List (List UInt8)), Value.int .i64 ((k : Int) - 1) = .int .i64 n ∧ Value.slice A8 N cap8 = .slice A4 l2.length cap4 ∧ -1 ≤ n ∧ n < hs.length ∧ Hid (l2 = refApp la (plains (hs.drop (n + 1).toNat))) ∧
                Hid (∀ j (hj : j < hs.length), n < j → atB la hs[j].old hs[j].at_ = true) ∧ Hid (Strs w8 w8.heap.size A4 (toBs l2)) ∧ Hid (Room A4 l2.length cap4) ∧ Below w.heap.size w w8 := by
            intro A8 cap8 w8 ho hb8
            obtain ⟨hs8, hr8, hl8⟩ := ho.at_
            refine ⟨(k : Int) - 1, A8, cap8, X1 ++ X2, rfl, by rw [← hl8], by omega, by omega, ?_, HALL.out, hs8, by rw [← hl8]; exact hr8, hb6.trans (hb8.mono hb6.size)⟩
            show _ = _
            rw [hnx.out, HAPP.out]
          have HEND := Lib.hid hend
          have i1 : ((a : Int) + (o.length : Int)).toNat = a + o.length := by omega
          clear hend hX3 hN hlen3
          by_cases hcp : cap4 = a + o.length
          · have hx2 : Hid (0 = X2.length) := by
              show _ = _
              rw [HD0.out (by omega)]; rfl
            have i2 : ls.length = a + o.length := by omega
            go_wp2_with (at_builtin; refine wpList_append_row rfl _ _ rfl w5.heap.size _ X1 X2 rfl HO7.out A4 0 0 rfl hx2.out (fun _ => rfl) (fun h => by have := hx2.out; rw [toBs_len] at h; omega) hB7 hN2 N HN3.out ?_)
            intro A8 cap8 w8 ho8 hs8 hg8
            have hgb8 : Below w5.heap.size w5 w8 := hgb7.grown hg8 hgb7.size (fun k hk => ownBlock_ge HO7.out k hk)
            have hrel8 := Lib.hid (HEND.out A8 cap8 w8 ho8 hgb8)
            clear ho8 hs8 hg8 hgb8 HEND
            go_wp2
            go_roundw
            case rel => exact hrel8.out
            case measure => simp [intOf]
          · go_wp2_with (at_builtin; refine wpList_append_row rfl _ _ rfl w5.heap.size _ X1 X2 rfl HO7.out (A4.map fun x => x.add (a + o.length)) (cap4 - (a + o.length)) (ls.length - (a + o.length)) rfl hdl.out.symm (fun h => by have := hro1.out (by simpa using h); omega) HS8.out hB7 hN2 N HN3.out ?_)
            intro A8 cap8 w8 ho8 hs8 hg8
            have hgb8 : Below w5.heap.size w5 w8 := hgb7.grown hg8 hgb7.size (fun k hk => ownBlock_ge HO7.out k hk)
            have hrel8 := Lib.hid (HEND.out A8 cap8 w8 ho8 hgb8)
            clear ho8 hs8 hg8 hgb8 HEND
            go_wp2
            go_roundw
            case rel => exact hrel8.out
            case measure => simp [intOf]
end Go.Proofs.YtaepfahpbnpeiaaGreatDoor
namespace Go.Proofs.YtaepfahpbnpeiaaGreatDoor
open Go.RowKit
set_option linter.unusedVariables false

def hcells (hs : List Hm) : List Value := hs.flatMap Hm.cells
theorem hcells_len : ∀ (hs : List Hm), (hcells hs).length = hs.length * 3
  | [] => rfl
  | h :: hs => by
    have := hcells_len hs
    simp only [hcells, List.flatMap_cons, List.length_append, List.length_cons] at *
    rw [this]
    show 3 + _ = _
    omega
theorem hcells_get : ∀ (hs : List Hm) (j : Nat) (hj : j < hs.length), (hcells hs)[j * 3]? = some (.int .i64 hs[j].at_) ∧ (hcells hs)[j * 3 + 1]? = some (.slice hs[j].a1 hs[j].old.length hs[j].c1) ∧ (hcells hs)[j * 3 + 2]? = some (.slice hs[j].a2 hs[j].new.length hs[j].c2)
  | h :: hs, 0, hj => ⟨rfl, rfl, rfl⟩
  | h :: hs, j + 1, hj => by
    have ih := hcells_get hs j (by simpa using hj)
    have e : ∀ r, (hcells (h :: hs))[(j + 1) * 3 + r]? = (hcells hs)[j * 3 + r]? := by
      intro r
      have e1 : hcells (h :: hs) = h.cells ++ hcells hs := rfl
      rw [e1, List.getElem?_append_right (by show 3 ≤ _; omega)]
      congr 1
      show _ - 3 = _
      omega
    have e0 := e 0
    rw [Nat.add_zero, Nat.add_zero] at e0
    rw [e0, e 1, e 2]
    exact ih
/-- A slice of hunks that the call made. -/
def OwnH (w : World) (B : Nat) (v : Value) (hs : List Hm) : Prop := w.ownsRow B 55 3 v hs.length (hcells hs)
theorem OwnH.nil (w : World) (B : Nat) : OwnH w B (.slice none 0 0) [] := w.ownsRow_nil B 55 3
theorem OwnH.hks {w : World} {B : Nat} {v : Value} {hs : List Hm} (h : OwnH w B v hs) (hok : ∀ h ∈ hs, h.Ok w w.heap.size) : ∃ A cap, v = .slice A hs.length cap ∧ Hks w w.heap.size A hs ∧ Room A hs.length cap := by
  have h' := h
  rcases h.2 with ⟨rfl, h0⟩ | ⟨g, cap, cur, rfl, _, hg, hcap, _⟩
  · have e : hs = [] := List.length_eq_zero_iff.1 h0
    subst e
    exact ⟨none, 0, rfl, Hks.nil, fun _ => rfl, Nat.le_refl _⟩
  · refine ⟨_, cap, rfl, ⟨fun hp => ⟨g, 0, rfl, (Array.getElem?_eq_some_iff.1 hg).1, fun j hj => ?_⟩, hok⟩, (fun e => by cases e), hcap⟩
    obtain ⟨c0, c1, c2⟩ := hcells_get hs j hj
    have e : ∀ i, (⟨g, 0, none⟩ : Addr).add i = ⟨g, i, none⟩ := fun i => by unfold Addr.add; split <;> simp_all
    have k0 := h'.cells (g := g) rfl _ _ c0
    have k1 := h'.cells (g := g) rfl _ _ c1
    have k2 := h'.cells (g := g) rfl _ _ c2
    rw [e] at k0 k1 k2
    rw [Nat.zero_add]
    exact ⟨k0, k1, k2⟩
theorem OwnH.ne_strs {w : World} {B B2 : Nat} {v u : Value} {hs : List Hm} {ls : List (List UInt8)} (h : OwnH w B v hs) (g : OwnS w B2 u ls) : ∀ k, u.ownBlock = some k → v.ownBlock ≠ some k := by
  intro k hk hv
  rcases h.2 with ⟨rfl, _⟩ | ⟨g1, c1, cur1, rfl, _, hg1, _⟩
  · simp [Value.ownBlock] at hv
  · rcases g.2 with ⟨rfl, _⟩ | ⟨g2, c2, cur2, rfl, _, hg2, _⟩
    · simp [Value.ownBlock] at hk
    · simp only [Value.ownBlock, Option.some.injEq] at hk hv
      subst hk hv
      rw [hg1] at hg2
      simp only [Option.some.injEq, Obj.cells.injEq] at hg2
      exact absurd hg2.2.1 (by decide)
theorem HunkAt.ne_strs {w : World} {g B : Nat} {h : Hm} {v : Value} {ls : List (List UInt8)} (k : HunkAt w g h) (o : OwnS w B v ls) : v.ownBlock ≠ some g := by
  intro hv
  rcases o.2 with ⟨rfl, _⟩ | ⟨g2, c2, cur2, rfl, _, hg2, _⟩
  · simp [Value.ownBlock] at hv
  · simp only [Value.ownBlock, Option.some.injEq] at hv
    subst hv
    rw [show w.heap[g2]? = _ from k] at hg2
    simp only [Option.some.injEq, Obj.cells.injEq] at hg2
    exact absurd hg2.2.1 (by decide)
theorem info_hunk : (Tryz.prog.info? 55).map (fun i => (i.zero, i.size, i.bytes)) = some (some (.agg #[.int .i64 0, .slice none 0 0, .slice none 0 0]), 3, 56) := by kernel_rfl
theorem wpList_append_hunk {w : World} {ops : Array Oper} {rest : List Oper} {o : Oper} {a : Act} {Q : Exit → Act → World → Prop} (hgd : o.guard = none) (s x : Operand)
    (ho : o.op = .call { callee := .builtin .append, args := #[s, x], argTypes := #[50, 50] })
    (B : Nat) (v : Value) (hs : List Hm) (hv : a.eval s = v) (hown : OwnH w B v hs) (h : Hm) (b : Nat) (hx : a.eval x = .slice (some ⟨b, 0, none⟩) 1 1) (hb : HunkAt w b h) (hB : B ≤ w.heap.size) (hle : hs.length ≤ 100000)
    (H : Nat) (hH : w.heap.size = H)
    (k : ∀ g cap w', OwnH w' B (.slice (some ⟨g, 0, none⟩) (hs.length + 1) cap) (hs ++ [h]) → w.grownBy w' v.ownBlock → (v.ownBlock = some g ∨ g = H) → wpList Tryz.prog ops Q rest (a.put o.dst (.slice (some ⟨g, 0, none⟩) (hs.length + 1) cap)) w') : wpList Tryz.prog ops Q (o :: rest) a w := by
  obtain ⟨i0, hi, hz0, hz1, hz2⟩ := info_parts info_hunk
  refine wpList_append_lies w hgd s x 50 ho B 55 i0 _ 3 56 Tryz.underlying50 hi hz0 hz1 hz2 rfl (by decide) v hs.length (hcells hs) hv hown ⟨b, 0, none⟩ 1 1 h.cells hx rfl ?_ ?_ (by decide) (by unfold maxLen; omega) (by omega) hB H hH ?_
  · exact World.news_of_block hb
  · intro u hu
    simp only [Hm.cells, List.mem_cons, List.not_mem_nil, or_false] at hu
    rcases hu with rfl | rfl | rfl <;> rfl
  · intro g cap w' ho' hg hat _
    refine k g cap w' ?_ hg hat
    unfold OwnH
    rw [List.length_append]
    have e : hcells (hs ++ [h]) = hcells hs ++ h.cells := by simp [hcells]
    rw [e]
    exact ho'
end Go.Proofs.YtaepfahpbnpeiaaGreatDoor
