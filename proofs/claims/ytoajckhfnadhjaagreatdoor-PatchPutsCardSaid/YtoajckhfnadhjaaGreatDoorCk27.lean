/- Package patch: laid, Put. The library's EqualFunc over op.Same; package patch's Same. -/
import Derived.ChangeOld
import Derived.SliceStrings
import Derived.WideShapes
import Derived.Deep.Slices
import Derived.Deep.Fields
import Derived.ChangeSame
import Derived.ChangeArms
import Derived.SizedLaws
import Derived.BigRegion
import Derived.Deep.RegionWith
import Derived.BigQuiet
import Derived.Deep.QuietTactic
import Derived.Handy
import Derived.Deep.CutRange
import Derived.Deep.RegionLaw
import Derived.Lib.QuietBelow
import Derived.Test.YtoajckhfnadhjaaGreatDoorCk16
import Derived.Test.YtoajckhfnadhjaaGreatDoorCk24
namespace Go.Proofs.YtoajckhfnadhjaaGreatDoor
open Go.RowKit
open Go.Sort
set_option linter.unusedVariables false

/-- How many bytes texts have. -/
def sumP : List (List UInt8) → Int
  | [] => 0
  | a :: l => a.length + sumP l
theorem sumP_app : ∀ (a b : List (List UInt8)), sumP (a ++ b) = sumP a + sumP b
  | [], b => by simp [sumP]
  | x :: a, b => by
    have ih := sumP_app a b
    show (x.length : Int) + sumP (a ++ b) = (x.length : Int) + sumP a + sumP b
    omega
theorem sumP_pos : ∀ l : List (List UInt8), 0 ≤ sumP l
  | [] => by simp [sumP]
  | a :: l => by
    have := sumP_pos l
    show 0 ≤ (a.length : Int) + sumP l
    omega
theorem sumP_le : ∀ l : List (List UInt8), sumP l ≤ (textsB l).length
  | [] => by simp [sumP, textsB]
  | a :: l => by
    have := sumP_le l
    rw [show textsB (a :: l) = (numB a.length ++ a) ++ textsB l from rfl, List.length_append, List.length_append]
    show (a.length : Int) + sumP l ≤ _
    omega
theorem puts_take (l : List Om) (k : Nat) (hk : k < l.length) : (okeys (l.take (k + 1))).map putO = (okeys (l.take k)).map putO ++ [putO l[k].key] := by
  rw [List.take_succ_eq_append_getElem hk, show okeys (l.take k ++ [l[k]]) = okeys (l.take k) ++ [l[k].key] by unfold okeys; rw [List.map_append]; rfl, List.map_append]
  rfl
theorem sum_take (l : List Om) (k : Nat) : sumP ((okeys (l.take k)).map putO) ≤ sumP ((okeys l).map putO) := by
  have e : okeys l = okeys (l.take k) ++ okeys (l.drop k) := by unfold okeys; rw [← List.map_append, List.take_append_drop]
  have h := sumP_pos ((okeys (l.drop k)).map putO)
  rw [e, List.map_append, sumP_app]
  omega
set_option maxHeartbeats 8000000 in
set_option maxRecDepth 100000 in
theorem plaid_any (A : Option Addr) (l : List Om) (c : Nat) (w : World) (hs : Ops w w.heap.size A l) (hok : ∀ o ∈ l, mayO o.key = true ∧ o.Sz) (hn : l.length ≤ 2000) (hT : Tabs w) (hN : Nums w) (hsum : sumP ((okeys l).map putO) ≤ 1048576) :
    Calls Tryz.prog 23 #[.slice A l.length c] w fun e w' => ∃ A2 n c2, e = .returned (.tuple #[.slice A2 n c2, .bool true]) ∧ Hid (n = l.length) ∧ Strs w' w'.heap.size A2 (toBs ((okeys l).map putO)) ∧ Below w.heap.size w w' := by
  have HS := Lib.hid hs
  have HOK := Lib.hid hok
  have HT := Lib.hid hT
  have HN := Lib.hid hN
  have HSUM := Lib.hid hsum
  have HO0 : Hid (OwnS w w.heap.size (.slice none 0 0) ((okeys (l.take 0)).map putO)) := OwnS.nil _ _
  have HG0 : Hid (Below w.heap.size w w) := Below.refl _ _
  clear hs hok hT hN hsum
  go_enter Tryz.func23, Tryz.ntmps23
  go_wp2_with fail
  go_loopw [4, 5, 12] (fun v rv iv wr => ∃ (k : Nat) (R : Int), rv = .int .i64 R ∧ iv = .int .i64 (k : Int) ∧ k ≤ l.length ∧ Hid (R = 1048576 - sumP ((okeys (l.take k)).map putO)) ∧ Hid (OwnS wr w.heap.size v ((okeys (l.take k)).map putO)) ∧ Hid (Below w.heap.size w wr)) (fun _ _ iv _ => l.length - (intOf iv).toNat)
  case atStart => exact ⟨0, 1048576, rfl, rfl, Nat.zero_le _, by show _ = _; simp [okeys, sumP], HO0.out, HG0.out⟩
  case round =>
    clear HO0 HG0
    obtain ⟨k, R, rfl, rfl, hk, HRM, HO, HG⟩ := hrel
    by_cases hlt : k < l.length
    · have hS := HS.out.on HG.out
      obtain ⟨b, off, rfl, hbB, hcx⟩ := hS.1.get hlt
      have HOX := Lib.hid (HS.out.2 l[k] (List.getElem_mem _))
      have HSZ := Lib.hid (HOK.out l[k] (List.getElem_mem _))
      have hpt := puts_take l k hlt
      have hst := sum_take l (k + 1)
      obtain ⟨o, ho⟩ : ∃ o, l[k] = o := ⟨_, rfl⟩
      rw [ho] at HOX HSZ hcx hpt
      have hsp := sumP_pos ((okeys (l.take k)).map putO)
      have hsz : (toB (putO o.key)).size = (putO o.key).length := toB_size _
      obtain ⟨s, hs⟩ : ∃ s, toB (putO o.key) = s := ⟨_, rfl⟩
      have hsl : s.data.toList = putO o.key := by rw [← hs, of_toB]
      rw [hs] at hsz
      have hR0 : 0 ≤ R - (s.size : Int) ∧ R ≤ 1048576 := by
        have h1 := HRM.out
        have h2 := HSUM.out
        rw [hpt, sumP_app] at hst
        have h3 : sumP [putO o.key] = (putO o.key).length := by simp [sumP]
        omega
      have hR1 : Hid (R - (s.size : Int) = 1048576 - sumP ((okeys (l.take (k + 1))).map putO)) := by
        show _ = _
        have h1 := HRM.out
        rw [hpt, sumP_app]
        have h3 : sumP [putO o.key] = (putO o.key).length := by simp [sumP]
        omega
      have HPT : Hid ((okeys (l.take (k + 1))).map putO = (okeys (l.take k)).map putO ++ [s.data.toList]) := by show _ = _; rw [hsl]; exact hpt
      have RX := Lib.hid (op_rng hcx)
      obtain ⟨hbx, hX⟩ := op_box wr o
      have HX := Lib.hid hX
      have HG1 := Lib.hid (HG.out.trans (hbx.mono HG.out.size))
      have HO1 : Hid (OwnS (wr.alloc (.cells #[.int .i64 o.kind, .string o.self.p, .int .i64 o.self.n, .string o.parent.p, .int .i64 o.parent.n, .string o.dst.p, .int .i64 o.dst.n, .string o.name, .string o.dname, .string o.left.p, .int .i64 o.left.n, .string o.right.p, .int .i64 o.right.n, .slice o.a1 o.dels.length o.c1, .int .i64 o.first, .slice o.a2 o.lines.length o.c2] 42)) w.heap.size _ ((okeys (l.take k)).map putO)) := World.ownsRow.alloc HO.out _
      have hlen : ((okeys (l.take k)).map putO).length = k := by rw [List.length_map, okeys_len, List.length_take]; omega
      have HLEN := Lib.hid hlen
      have HS0 := Lib.hid hs
      have u0 : (0 : Int) ≤ (k : Int) := by omega
      have u1 : (k : Int) < (l.length : Int) := by omega
      clear hS hcx hbx hX ho hbB hpt hst hsp hsz hs hsl HO HG HRM hlen
      go_upto_region 6 with (refine wpList_load_mid rfl 42 _ rfl b (off + k * 16) rfl [.int .i64 o.kind, .string o.self.p, .int .i64 o.self.n, .string o.parent.p, .int .i64 o.parent.n, .string o.dst.p, .int .i64 o.dst.n, .string o.name, .string o.dname, .string o.left.p, .int .i64 o.left.n, .string o.right.p, .int .i64 o.right.n, .slice o.a1 o.dels.length o.c1, .int .i64 o.first, .slice o.a2 o.lines.length o.c2] _ RX.out Tryz.underlying42 rfl (by kernel_rfl) ?_)
      generalize (wr.alloc (.cells #[.int .i64 o.kind, .string o.self.p, .int .i64 o.self.n, .string o.parent.p, .int .i64 o.parent.n, .string o.dst.p, .int .i64 o.dst.n, .string o.name, .string o.dname, .string o.left.p, .int .i64 o.left.n, .string o.right.p, .int .i64 o.right.n, .slice o.a1 o.dels.length o.c1, .int .i64 o.first, .slice o.a2 o.lines.length o.c2] 42)) = wa at *
      generalize hgx : wr.heap.size = gx at *
      clear RX hgx
      generalize (Value.agg #[.int .i64 o.kind, .string o.self.p, .int .i64 o.self.n, .string o.parent.p, .int .i64 o.parent.n, .string o.dst.p, .int .i64 o.dst.n, .string o.name, .string o.dname, .string o.left.p, .int .i64 o.left.n, .string o.right.p, .int .i64 o.right.n, .slice o.a1 o.dels.length o.c1, .int .i64 o.first, .slice o.a2 o.lines.length o.c2]) = vo
      have CP := Lib.hid (opput_yes o wa (HOX.out.on HG1.out) HSZ.out.2 (Tabs.on HT.out HG1.out) (HN.out.on HG1.out) HSZ.out.1)
      rw [HS0.out] at CP
      -- @P1
      go_wp2_with ((with_reducible refine wpList_load_opw (.tmp 7) gx o HX.out ?_ ?_ ?_ ?_); rfl; rfl; rfl; simp only [Act.put, List.setIfInBounds_toArray, List.set_cons_zero, List.set_cons_succ, Om.val, Om.cells])
      refine CP.out.mono ?_
      rintro e w2 ⟨rfl, hb2⟩
      have hal : Below w2.heap.size w2 (w2.alloc (.cells #[.string s] 9)) := (Below.refl _ _).alloc (Nat.le_refl _) _
      have hB2 := HG1.out.trans (hb2.mono HG1.out.size)
      have HB2 := Lib.hid (hB2.trans (hal.mono hB2.size))
      have HO2 := Lib.hid (show OwnS (w2.alloc (.cells #[.string s] 9)) w.heap.size _ _ from World.ownsRow.alloc (HO1.out.kept hb2) _)
      have hle : ((okeys (l.take k)).map putO).length + [s.data.toList].length ≤ 1000000 := by rw [HLEN.out]; simp; omega
      obtain ⟨R2, hR2⟩ : ∃ R2, R - (s.size : Int) = R2 := ⟨_, rfl⟩
      have q3 : ¬ R2 < 0 := by omega
      rw [hR2] at hR1
      have hz1 : (s.size : Int) ≤ 1048576 := by omega
      have q4 : wrap64 R2 = R2 := by unfold wrap64; omega
      have q5 : IntKind.i64.wrap R2 = R2 := IntWalk.i64_in _ (by omega)
      clear hb2 hal hB2 CP HX HG1 HO1 hR0
      obtain ⟨LS, hLS⟩ : ∃ LS, (okeys (l.take k)).map putO = LS := ⟨_, rfl⟩
      rw [hLS] at HO2 hle HPT HLEN
      clear hLS
      -- @P2
      go_wp2_with (at_builtin; refine wpList_append_strs rfl _ _ rfl w.heap.size _ LS [s.data.toList] rfl HO2.out (some ⟨w2.heap.size, 0, none⟩) 1 1 rfl rfl (fun e => by cases e) (strs_one w2 s) HB2.out.size hle ?_)
      intro v3 w3 ho3 hg3
      have HB3 : Hid (Below w.heap.size w w3) := below_append HB2.out HO2.out hg3 (Nat.le_refl _)
      have HO3 : Hid (OwnS w3 w.heap.size v3 ((okeys (l.take (k + 1))).map putO)) := by show OwnS _ _ _ _; rw [HPT.out]; exact ho3
      clear ho3 hg3 HB2 HO2 HPT hR2 q3 q4 q5
      go_wp2
      go_roundw
      case rel => exact ⟨k + 1, R2, rfl, by go_num, by omega, hR1, HO3.out, HB3.out⟩
      case measure => simp [intOf]; omega
    · obtain rfl : k = l.length := by omega
      obtain ⟨A2, c2, rfl, hs2, _, _⟩ := HO.out.strs
      rw [List.take_length] at hs2
      have hl2 : ((okeys (l.take l.length)).map putO).length = l.length := by rw [List.take_length, List.length_map, okeys_len]
      have HS2 := Lib.hid hs2
      rw [hl2]
      clear HRM HO hs2 hl2
      go_wp2
      go_ret2
      exact ⟨A2, _, c2, rfl, rfl, HS2.out, HG.out⟩
set_option maxHeartbeats 8000000 in
set_option maxRecDepth 100000 in
theorem pput_any (x : Ptm) (w : World) (ox : x.Ok w w.heap.size) (sx : x.Ck) (hT : Tabs w) (hN : Nums w) (hl : checkP x.key = 0 → (putP x.key).length ≤ 500000) :
    Calls Tryz.prog 8 #[.agg #[.string x.name, .slice x.a1 x.deps.length x.c1, .slice x.a2 x.ops.length x.c2]] w (PutPL x w) := by
  obtain ⟨hb, hx⟩ := pat_box w x
  have HP := Lib.hid hx
  have HB := Lib.hid hb
  have OX := Lib.hid (ox.on hb)
  have HT := Lib.hid (Tabs.on hT hb)
  have HN := Lib.hid (hN.on hb)
  have SX := Lib.hid sx
  have HL := Lib.hid hl
  clear hb hx ox hT hN sx hl
  go_enter Tryz.func8, Tryz.ntmps8
  go_upto_region 1 with (fail)
  generalize (w.alloc (.cells #[.string x.name, .slice x.a1 x.deps.length x.c1, .slice x.a2 x.ops.length x.c2] 25)) = wb at *
  generalize (Value.agg #[.string x.name, .slice x.a1 x.deps.length x.c1, .slice x.a2 x.ops.length x.c2]) = vx
  obtain ⟨er, her⟩ : ∃ er, checkP x.key = er := ⟨_, rfl⟩
  have HER := Lib.hid her
  have CC := Lib.hid (pcheck_any x wb OX.out SX.out HT.out er her)
  have p0 := HP.out.c0
  have p1 := HP.out.c1
  have p2 := HP.out.c2
  clear her
  go_wp2_with fail
  refine CC.out.mono ?_
  rintro e w1 ⟨rfl, hb1⟩
  replace HP := Lib.hid (HP.out.on hb1)
  replace OX := Lib.hid (OX.out.on hb1)
  replace HT := Lib.hid (Tabs.on HT.out hb1)
  replace HN := Lib.hid (HN.out.on hb1)
  replace HB := Lib.hid (HB.out.trans (hb1.mono HB.out.size))
  clear hb1 CC p0 p1 p2
  have p0 := HP.out.c0
  have p1 := HP.out.c1
  have p2 := HP.out.c2
  by_cases he : er = 0
  · subst he
    obtain ⟨hn, hm⟩ := checkP_ok.1 HER.out
    have hmay : ∀ o ∈ x.ops, mayO o.key = true := fun o ho => may_ops hm o.key (List.mem_map.2 ⟨o, ho, rfl⟩)
    have hfew : x.ops.length ≤ 2000 := by have h2 := may_few hm; rwa [show x.key.ops.length = x.ops.length from okeys_len _] at h2
    have hname : x.name.size ≤ 40 := by
      unfold namesP13 at hn
      simp only [Bool.and_eq_true, List.all_eq_true] at hn
      have h2 := name_len hn.1
      rwa [show x.key.name.length = x.name.size from bytes_len x.name] at h2
    have hpl := HL.out HER.out
    have esum : (putP x.key).length = (textB x.name.data.toList).length + ((listB x.deps).length + (listB ((okeys x.ops).map putO)).length) := by
      unfold putP
      rw [List.append_nil, List.length_append, List.length_append]
      rfl
    have e1 : (listB x.deps).length = (numB x.deps.length).length + (textsB x.deps).length := by rw [show listB x.deps = numB x.deps.length ++ textsB x.deps from rfl, List.length_append]
    have e2 : (listB ((okeys x.ops).map putO)).length = (numB ((okeys x.ops).map putO).length).length + (textsB ((okeys x.ops).map putO)).length := by rw [show listB ((okeys x.ops).map putO) = numB ((okeys x.ops).map putO).length ++ textsB ((okeys x.ops).map putO) from rfl, List.length_append]
    have hsum : sumP ((okeys x.ops).map putO) ≤ 1048576 := by have h := sumP_le ((okeys x.ops).map putO); omega
    have CL := Lib.hid (plaid_any x.a2 x.ops x.c2 w1 OX.out.ops (fun o ho => ⟨hmay o ho, SX.out.ops o ho⟩) hfew HT.out HN.out hsum)
    have HE := Lib.hid (show (textB x.name.data.toList).length ≤ 500000 ∧ (listB x.deps).length ≤ 500000 ∧ (listB ((okeys x.ops).map putO)).length ≤ 500000 ∧ (putP x.key).length ≤ 500000 ∧ (numB x.deps.length).length + (textsB x.deps).length ≤ 500000 ∧ (numB ((okeys x.ops).map putO).length).length + (textsB ((okeys x.ops).map putO)).length ≤ 500000 from ⟨by omega, by omega, by omega, by omega, by omega, by omega⟩)
    have HNM := Lib.hid hname
    clear hn hm hmay hfew hname hpl esum e1 e2 hsum
    go_upto_region 5 with (go_at_call 23; refine CL.out.mono ?_; rintro e w2 ⟨A2, n2, c2, rfl, hn2, hs2, hb2⟩)
    replace HP := Lib.hid (HP.out.on hb2)
    replace OX := Lib.hid (OX.out.on hb2)
    replace HB := Lib.hid (HB.out.trans (hb2.mono HB.out.size))
    have HS2 := Lib.hid hs2
    have HN2 : Hid (n2 = ((okeys x.ops).map putO).length) := by show _ = _; rw [hn2.out, List.length_map, okeys_len]
    clear hb2 hs2 hn2 CL p0 p1 p2
    go_upto_region 7 with (fail)
    obtain ⟨b1, hb1⟩ : ∃ b, toB (textB x.name.data.toList) = b := ⟨_, rfl⟩
    have z1 : b1.size ≤ 500000 := by rw [← hb1, toB_size]; exact HE.out.1
    have q1 := ctext_q x.name w2 (by have := HNM.out; omega) b1 hb1
    obtain ⟨b2, hb2⟩ : ∃ b, toB (listB x.deps) = b := ⟨_, rfl⟩
    have z2 : b2.size ≤ 500000 := by rw [← hb2, toB_size]; exact HE.out.2.1
    have q2 := clist_q x.a1 x.deps x.deps.length x.c1 rfl w2 OX.out.deps (by have := SX.out.few; omega) (by have := HE.out.2.2.2.2.1; omega) b2 hb2
    obtain ⟨LS, hLS⟩ : ∃ LS, (okeys x.ops).map putO = LS := ⟨_, rfl⟩
    have HLS := Lib.hid hLS
    rw [hLS] at HS2 HN2 HE
    obtain ⟨b3, hb3⟩ : ∃ b, toB (listB LS) = b := ⟨_, rfl⟩
    have z3 : b3.size ≤ 500000 := by rw [← hb3, toB_size]; exact HE.out.2.2.1
    have hnl : LS.length ≤ 500000 := Nat.le_trans (texts_ge LS) (by have := HE.out.2.2.2.2.2; omega)
    have q3 := clist_q A2 LS n2 c2 HN2.out w2 HS2.out (by omega) (by have := HE.out.2.2.2.2.2; omega) b3 hb3
    have hvz : (b1 ++ b2 ++ b3).size ≤ 500000 := by
      have h := HE.out.2.2.2.1
      have e : (putP x.key).length = (textB x.name.data.toList).length + ((listB x.deps).length + (listB LS).length) := by
        unfold putP
        rw [List.append_nil, List.length_append, List.length_append, ← hLS]
        rfl
      rw [ByteArray.size_append, ByteArray.size_append, ← hb1, ← hb2, ← hb3, toB_size, toB_size, toB_size]
      omega
    have HV : Hid (b1 ++ b2 ++ b3 = toB (putP x.key)) := by
      show _ = _
      rw [← hb1, ← hb2, ← hb3, ← hLS]
      unfold putP
      simp only [toB_app, List.append_assoc, List.append_nil]
      rfl
    have ca := fun d os => cell_regrown HP.out.c0 d os
    have cb := fun d os => cell_regrown HP.out.c1 d os
    clear hb1 hb2 hb3 hLS hnl
    -- @P1
    refine wp_region_quiet_below (by kernel_rfl) (by kernel_rfl) ?_
    repeat (go_big_quiet_step (first | with_reducible exact q1 _ _ | with_reducible exact q2 _ _ | with_reducible exact q3 _ _))
    refine wpQuiet_nil ?_
    intro _ hw'
    obtain ⟨⟨dq, osq⟩, hw''⟩ := hw'
    subst hw''
    have HBE := Lib.hid (HB.out.trans ((below_regrown w2 dq osq).mono HB.out.size))
    generalize grow (redrawn w2 dq) osq = w3 at *
    obtain ⟨S, hS⟩ : ∃ S, b1 ++ b2 ++ b3 = S := ⟨_, rfl⟩
    rw [hS] at HV hvz
    have q9 : ¬ (S.size : Int) > 1048576 := by omega
    clear q1 q2 q3 ca cb z1 z2 z3
    -- @P2
    try rw [hS]
    clear hS
    go_wp2
    go_ret2
    exact ⟨S, 0, rfl, ⟨fun _ => ⟨HV.out, rfl⟩, fun h => absurd HER.out h⟩, HBE.out⟩
  · have q1 : (er != 0) = true := by rw [bne_iff_ne]; exact he
    obtain ⟨z, hz⟩ : ∃ z : ByteArray, Hid (z = ⟨#[]⟩) := ⟨_, rfl⟩
    have HV : Hid ((checkP x.key = 0 → z = toB (putP x.key) ∧ er = 0) ∧ (checkP x.key ≠ 0 → z = ⟨#[]⟩ ∧ er = checkP x.key)) := ⟨fun h => absurd (HER.out.symm.trans h) he, fun _ => ⟨hz.out, HER.out.symm⟩⟩
    clear he
    go_wp2
    go_ret2
    exact ⟨z, er, by rw [hz.out]; rfl, HV, HB.out⟩
end Go.Proofs.YtoajckhfnadhjaaGreatDoor
namespace Go.Proofs.YtoajckhfnadhjaaGreatDoor
open Go.RowKit
set_option linter.unusedVariables false

theorem pokeys_all {l m : List Om} (hl : l.length = m.length) (h : ∀ j (hj : j < l.length) (hj2 : j < m.length), l[j].key = m[j].key) : okeys l = okeys m := by
  refine List.ext_getElem (by rw [okeys_len, okeys_len]; exact hl) fun j h1 h2 => ?_
  simp only [okeys, List.getElem_map]
  rw [okeys_len] at h1 h2
  exact h j h1 h2
theorem pokeys_at {l m : List Om} (h : okeys l = okeys m) (j : Nat) (hj : j < l.length) (hj2 : j < m.length) : l[j].key = m[j].key := by
  have e2 := congrArg (fun l => l[j]?) h
  simpa only [okeys, List.getElem?_map, List.getElem?_eq_getElem hj, List.getElem?_eq_getElem hj2, Option.map_some, Option.some.injEq] using e2
set_option maxHeartbeats 8000000 in
set_option maxRecDepth 100000 in
theorem oequal_any (A A2 : Option Addr) (l m : List Om) (cap cap2 : Nat) (w : World) (hl : Ops w w.heap.size A l) (hm : Ops w w.heap.size A2 m) (sl : ∀ o ∈ l, o.Sz) (sm : ∀ o ∈ m, o.Sz) (nl : l.length ≤ 9223372036854775807) (nm : m.length ≤ 9223372036854775807) (r : Bool) (hr : decide (okeys l = okeys m) = r) :
    Calls Tryz.prog 33 #[.slice A l.length cap, .slice A2 m.length cap2, .func (.func 34) #[] #[]] w fun e w' => e = .returned (.bool r) ∧ Below w.heap.size w w' := by
  have HL := Lib.hid hl
  have HM := Lib.hid hm
  have SL := Lib.hid sl
  have SM := Lib.hid sm
  have HR := Lib.hid hr
  have HG0 : Hid (Below w.heap.size w w) := Below.refl _ _
  clear hl hm sl sm hr
  by_cases hlen : l.length = m.length
  · have HLEN := Lib.hid hlen
    have hb1 : (((l.length : Int)) != (m.length : Int)) = false := by simp; omega
    have HA0 : Hid (∀ j (hj : j < l.length) (hj2 : j < m.length), j < 0 → l[j].key = m[j].key) := fun j _ _ h => absurd h (by omega)
    clear hlen
    go_enter Tryz.func33, Tryz.ntmps33
    go_wp2_with fail
    go_loopw [17] (fun i wr => ∃ k : Nat, k ≤ l.length ∧ i = .int .i64 (k : Int) ∧ Hid (∀ j (hj : j < l.length) (hj2 : j < m.length), j < k → l[j].key = m[j].key) ∧ Hid (Below w.heap.size w wr)) (fun i _ => l.length - (intOf i).toNat)
    case atStart => exact ⟨0, Nat.zero_le _, rfl, HA0.out, HG0.out⟩
    case round =>
      clear HA0 HG0
      obtain ⟨k, hk, rfl, HALL, HG⟩ := hrel
      by_cases hlt : k < l.length
      · have hlt2 : k < m.length := by have := HLEN.out; omega
        have hS := HL.out.on HG.out
        have hS2 := HM.out.on HG.out
        obtain ⟨b, off, rfl, hbB, hcx⟩ := hS.1.get hlt
        obtain ⟨b2, off2, rfl, hbB2, hcx2⟩ := hS2.1.get hlt2
        have OX := Lib.hid (HL.out.2 l[k] (List.getElem_mem _))
        have OY := Lib.hid (HM.out.2 m[k] (List.getElem_mem _))
        have SX := Lib.hid (SL.out l[k] (List.getElem_mem _))
        have SY := Lib.hid (SM.out m[k] (List.getElem_mem _))
        have hno : Hid (l[k].key ≠ m[k].key → r = false) := fun hne => by
          rw [← HR.out]
          exact decide_eq_false fun e => hne (pokeys_at e k hlt hlt2)
        have hyes : Hid (l[k].key = m[k].key → ∀ j (hj : j < l.length) (hj2 : j < m.length), j < k + 1 → l[j].key = m[j].key) := fun he j hj hj2 hjk => by
          by_cases hjk2 : j = k
          · subst hjk2; exact he
          · exact HALL.out j hj hj2 (by omega)
        obtain ⟨x, hx⟩ : ∃ x, l[k] = x := ⟨_, rfl⟩
        obtain ⟨y, hy⟩ : ∃ y, m[k] = y := ⟨_, rfl⟩
        rw [hx] at OX SX hcx hno hyes
        rw [hy] at OY SY hcx2 hno hyes
        have RX := Lib.hid (op_rng hcx)
        obtain ⟨hbx, hX⟩ := op_box wr x
        have RY := Lib.hid (op_rng fun r u h => (hbx.cell (rec_cell_lt (hcx2 r u h))).trans (hcx2 r u h))
        obtain ⟨hby, hY⟩ := op_box (wr.alloc (.cells #[.int .i64 x.kind, .string x.self.p, .int .i64 x.self.n, .string x.parent.p, .int .i64 x.parent.n, .string x.dst.p, .int .i64 x.dst.n, .string x.name, .string x.dname, .string x.left.p, .int .i64 x.left.n, .string x.right.p, .int .i64 x.right.n, .slice x.a1 x.dels.length x.c1, .int .i64 x.first, .slice x.a2 x.lines.length x.c2] 42)) y
        have HX := Lib.hid (hX.on hby)
        have HY := Lib.hid hY
        have hb2 := HG.out.trans (hbx.mono HG.out.size)
        have HG1 := Lib.hid (hb2.trans (hby.mono hb2.size))
        have u0 : (0 : Int) ≤ (k : Int) := by omega
        have u1 : (k : Int) < (l.length : Int) := by omega
        have u2 : (k : Int) < (m.length : Int) := by omega
        clear hS hS2 hcx hcx2 hbx hby hX hY hx hy hbB hbB2 hb2 HG HALL
        go_upto_region 6 with (refine wpList_load_mid rfl 42 _ rfl b (off + k * 16) rfl [.int .i64 x.kind, .string x.self.p, .int .i64 x.self.n, .string x.parent.p, .int .i64 x.parent.n, .string x.dst.p, .int .i64 x.dst.n, .string x.name, .string x.dname, .string x.left.p, .int .i64 x.left.n, .string x.right.p, .int .i64 x.right.n, .slice x.a1 x.dels.length x.c1, .int .i64 x.first, .slice x.a2 x.lines.length x.c2] _ RX.out Tryz.underlying42 rfl (by kernel_rfl) ?_)
        generalize (wr.alloc (.cells #[.int .i64 x.kind, .string x.self.p, .int .i64 x.self.n, .string x.parent.p, .int .i64 x.parent.n, .string x.dst.p, .int .i64 x.dst.n, .string x.name, .string x.dname, .string x.left.p, .int .i64 x.left.n, .string x.right.p, .int .i64 x.right.n, .slice x.a1 x.dels.length x.c1, .int .i64 x.first, .slice x.a2 x.lines.length x.c2] 42)) = wa at *
        generalize hgx : wr.heap.size = gx at *
        clear RX hgx
        generalize (Value.agg #[.int .i64 x.kind, .string x.self.p, .int .i64 x.self.n, .string x.parent.p, .int .i64 x.parent.n, .string x.dst.p, .int .i64 x.dst.n, .string x.name, .string x.dname, .string x.left.p, .int .i64 x.left.n, .string x.right.p, .int .i64 x.right.n, .slice x.a1 x.dels.length x.c1, .int .i64 x.first, .slice x.a2 x.lines.length x.c2]) = vx
        go_upto_region 7 with (refine wpList_load_mid rfl 42 _ rfl b2 (off2 + k * 16) rfl [.int .i64 y.kind, .string y.self.p, .int .i64 y.self.n, .string y.parent.p, .int .i64 y.parent.n, .string y.dst.p, .int .i64 y.dst.n, .string y.name, .string y.dname, .string y.left.p, .int .i64 y.left.n, .string y.right.p, .int .i64 y.right.n, .slice y.a1 y.dels.length y.c1, .int .i64 y.first, .slice y.a2 y.lines.length y.c2] _ RY.out Tryz.underlying42 rfl (by kernel_rfl) ?_)
        generalize (wa.alloc (.cells #[.int .i64 y.kind, .string y.self.p, .int .i64 y.self.n, .string y.parent.p, .int .i64 y.parent.n, .string y.dst.p, .int .i64 y.dst.n, .string y.name, .string y.dname, .string y.left.p, .int .i64 y.left.n, .string y.right.p, .int .i64 y.right.n, .slice y.a1 y.dels.length y.c1, .int .i64 y.first, .slice y.a2 y.lines.length y.c2] 42)) = wc at *
        generalize hgy : wa.heap.size = gy at *
        clear RY hgy
        generalize (Value.agg #[.int .i64 y.kind, .string y.self.p, .int .i64 y.self.n, .string y.parent.p, .int .i64 y.parent.n, .string y.dst.p, .int .i64 y.dst.n, .string y.name, .string y.dname, .string y.left.p, .int .i64 y.left.n, .string y.right.p, .int .i64 y.right.n, .slice y.a1 y.dels.length y.c1, .int .i64 y.first, .slice y.a2 y.lines.length y.c2]) = vy
        obtain ⟨q, hq⟩ : ∃ q, decide (x.key = y.key) = q := ⟨_, rfl⟩
        have CS := Lib.hid (opsamek_any x y wc (OX.out.on HG1.out) (OY.out.on HG1.out) SX.out SY.out q hq)
        have HQ := Lib.hid hq
        clear hq
        go_wp2_with (first | ((with_reducible refine wpList_load_opw (.tmp 8) gx x HX.out ?_ ?_ ?_ ?_); rfl; rfl; rfl; simp only [Act.put, List.setIfInBounds_toArray, List.set_cons_zero, List.set_cons_succ, Om.val, Om.cells]) | ((with_reducible refine wpList_load_opw (.tmp 9) gy y HY.out ?_ ?_ ?_ ?_); rfl; rfl; rfl; simp only [Act.put, List.setIfInBounds_toArray, List.set_cons_zero, List.set_cons_succ, Om.val, Om.cells]))
        refine CS.out.mono ?_
        rintro e w2 ⟨rfl, hb2⟩
        have HG2 := Lib.hid (HG1.out.trans (hb2.mono HG1.out.size))
        clear hb2 CS HX HY HG1
        cases q
        · have HF := Lib.hid (hno.out (of_decide_eq_false HQ.out))
          clear hno hyes
          go_wp2
          go_ret
          exact ⟨by rw [HF.out]; rfl, HG2.out⟩
        · have HA2 := Lib.hid (hyes.out (of_decide_eq_true HQ.out))
          clear hno hyes
          go_wp2
          go_roundw
          case rel => exact ⟨k + 1, by omega, by go_num, HA2.out, HG2.out⟩
          case measure => simp [intOf]; omega
      · have hk2 : k = l.length := by omega
        have HF : Hid (r = true) := by
          show _ = _
          rw [← HR.out]
          exact decide_eq_true (pokeys_all HLEN.out fun j hj hj2 => HALL.out j hj hj2 (by omega))
        clear HALL
        go_wp2
        go_ret
        exact ⟨by rw [HF.out]; rfl, HG.out⟩
  · have HF : Hid (r = false) := by
      show _ = _
      rw [← HR.out]
      refine decide_eq_false fun e => hlen ?_
      have := congrArg List.length e
      rwa [okeys_len, okeys_len] at this
    have hb1 : (((l.length : Int)) != (m.length : Int)) = true := by simp; omega
    go_enter Tryz.func33, Tryz.ntmps33
    go_wp2
    go_ret
    exact ⟨by rw [HF.out]; rfl, HG0.out⟩
theorem pkey_same (x y : Ptm) : decide (x.key = y.key) = (decide (x.name = y.name) && (decide (x.deps = y.deps) && decide (okeys x.ops = okeys y.ops))) := by
  rw [Bool.eq_iff_iff, Bool.and_eq_true, Bool.and_eq_true, decide_eq_true_eq, decide_eq_true_eq, decide_eq_true_eq, decide_eq_true_eq]
  constructor
  · intro h
    exact ⟨bytes_inj (congrArg PatK.name h), congrArg PatK.deps h, congrArg PatK.ops h⟩
  · rintro ⟨h1, h2, h3⟩
    unfold Ptm.key
    rw [h1, h2, h3]
set_option maxHeartbeats 4000000 in
set_option maxRecDepth 100000 in
theorem psame_any (x y : Ptm) (w : World) (ox : x.Ok w w.heap.size) (oy : y.Ok w w.heap.size) (sx : x.Ck) (sy : y.Ck) (r : Bool) (hr : decide (x.key = y.key) = r) :
    Calls Tryz.prog 11 #[.agg #[.string x.name, .slice x.a1 x.deps.length x.c1, .slice x.a2 x.ops.length x.c2], .agg #[.string y.name, .slice y.a1 y.deps.length y.c1, .slice y.a2 y.ops.length y.c2]] w fun e w' => e = .returned (.bool r) ∧ Below w.heap.size w w' := by
  obtain ⟨hbx, hx⟩ := pat_box w x
  obtain ⟨hby, hy⟩ := pat_box (w.alloc (.cells #[.string x.name, .slice x.a1 x.deps.length x.c1, .slice x.a2 x.ops.length x.c2] 25)) y
  have hb2 := hbx.trans (hby.mono hbx.size)
  have HX := Lib.hid (hx.on hby)
  have es : (w.alloc (.cells #[.string x.name, .slice x.a1 x.deps.length x.c1, .slice x.a2 x.ops.length x.c2] 25)).heap.size = w.heap.size + 1 := by simp
  rw [es] at hy
  have HY := Lib.hid hy
  have HB := Lib.hid hb2
  have OX := Lib.hid (ox.on hb2)
  have OY := Lib.hid (oy.on hb2)
  have SX := Lib.hid sx
  have SY := Lib.hid sy
  rw [pkey_same] at hr
  obtain ⟨d, hd⟩ : ∃ d, decide (x.deps = y.deps) = d := ⟨_, rfl⟩
  obtain ⟨o, ho⟩ : ∃ o, decide (okeys x.ops = okeys y.ops) = o := ⟨_, rfl⟩
  rw [hd, ho] at hr
  have HD := Lib.hid hd
  have HO := Lib.hid ho
  clear hbx hx hby hy hb2 es ox oy sx sy hd ho
  go_enter Tryz.func11, Tryz.ntmps11
  go_upto_region 1 with (fail)
  generalize ((w.alloc (.cells #[.string x.name, .slice x.a1 x.deps.length x.c1, .slice x.a2 x.ops.length x.c2] 25)).alloc (.cells #[.string y.name, .slice y.a1 y.deps.length y.c1, .slice y.a2 y.ops.length y.c2] 25)) = wb at *
  generalize (Value.agg #[.string x.name, .slice x.a1 x.deps.length x.c1, .slice x.a2 x.ops.length x.c2]) = vx
  generalize (Value.agg #[.string y.name, .slice y.a1 y.deps.length y.c1, .slice y.a2 y.ops.length y.c2]) = vy
  have x0 := HX.out.c0
  have x1 := HX.out.c1
  have y0 := HY.out.c0
  have y1 := HY.out.c1
  by_cases hn : x.name = y.name
  · have q1 : (x.name.toList == y.name.toList) = true := by rw [hn]; exact str_eqb _
    rw [decide_eq_true hn, Bool.true_and] at hr
    have HR := Lib.hid hr
    have CE := Lib.hid (pequal_any x.a1 y.a1 x.deps y.deps x.c1 y.c1 wb d HD.out OX.out.deps OY.out.deps SX.out.few SY.out.few)
    clear hn hr
    go_wp2_with fail
    refine CE.out.mono ?_
    rintro e w1 ⟨rfl, hb1⟩
    replace HX := Lib.hid (HX.out.on hb1)
    replace HY := Lib.hid (HY.out.on hb1)
    replace OX := Lib.hid (OX.out.on hb1)
    replace OY := Lib.hid (OY.out.on hb1)
    replace HB := Lib.hid (HB.out.trans (hb1.mono HB.out.size))
    clear hb1 CE x0 x1 y0 y1 HD
    have x2 := HX.out.c2
    have y2 := HY.out.c2
    cases d
    · have HF : Hid (r = false) := HR.out.symm
      clear HR
      go_wp2
      go_ret
      exact ⟨by rw [HF.out]; rfl, HB.out⟩
    · have HR2 : Hid (o = r) := HR.out
      have CO := Lib.hid (oequal_any x.a2 y.a2 x.ops y.ops x.c2 y.c2 w1 OX.out.ops OY.out.ops SX.out.ops SY.out.ops SX.out.many SY.out.many o HO.out)
      clear HR
      go_wp2_with fail
      refine CO.out.mono ?_
      rintro e w2 ⟨rfl, hb2⟩
      replace HB := Lib.hid (HB.out.trans (hb2.mono HB.out.size))
      clear hb2 CO x2 y2
      go_wp2
      go_ret
      exact ⟨by rw [← HR2.out]; rfl, HB.out⟩
  · have q1 : (x.name.toList == y.name.toList) = false := str_ne hn
    rw [decide_eq_false hn, Bool.false_and] at hr
    have HF : Hid (r = false) := hr.symm
    clear hr hn
    go_wp2
    go_ret
    exact ⟨by rw [HF.out]; rfl, HB.out⟩
end Go.Proofs.YtoajckhfnadhjaaGreatDoor
