/- The reference's hunk of an operation: its ids in pairs, its parts. -/
import Derived.Lib.SlicesCompact
import Derived.BigQuiet
import Derived.Deep.QuietTactic
import Derived.Handy
import Derived.Deep.CutRange
import Derived.Test.YtideldgblafhlaaDoorCk08
namespace Go.Proofs.YtideldgblafhlaaDoor
open Go.RowKit
set_option linter.unusedVariables false

theorem refnamek_any (p : ByteArray) (w : World) (hp : p.size ≤ 9223372036854775807) (r : Bool) (hr : nameK p.data.toList = r) :
    Calls Tryd.prog 28 #[.string p] w fun e w' => e = .returned (.bool r) ∧ Below w.heap.size w w' := by
  have h : rightB p = r := by rw [← hr]; unfold nameK; rw [toB_of]
  refine (refright_any p w hp).mono ?_
  rintro e w' ⟨rfl, rfl⟩
  exact ⟨by rw [h], Below.refl _ _⟩
theorem refcheckk_any (A : Option Addr) (l : List (List UInt8)) (c : Nat) (w : World) (hs : Strs w w.heap.size A (toBs l)) (hn : l.length ≤ 9223372036854775807) (hz : ∀ x ∈ l, x.length ≤ 9223372036854775807) (hT : Tabs w) (r : Int) (hr : checkN (toBs l) = r) :
    Calls Tryd.prog 37 #[.slice A l.length c] w fun e w' => e = .returned (.int .i64 r) ∧ Below w.heap.size w w' := by
  have h := refcheck_any A (toBs l) c w hs (by rw [toBs_len]; omega) (fun s hs => by
    obtain ⟨y, hy, rfl⟩ := List.mem_map.1 hs
    rw [toB_size]
    exact hz y hy) hT
  rw [toBs_len, hr] at h
  exact h
theorem nodup_keys {l : List Im} (h : ∀ a b (ha : a < l.length) (hb : b < l.length), a < b → l[a] ≠ l[b]) : (ikeys l).Nodup := by
  unfold List.Nodup
  rw [List.pairwise_iff_getElem]
  intro i j hi hj hij
  rw [ikeys_get, ikeys_get]
  rw [ikeys_len] at hi hj
  exact fun e => h i j hi hj hij (Im.key_inj e)
theorem not_nodup {l : List Im} {a b : Nat} (ha : a < l.length) (hb : b < l.length) (hab : a < b) (e : l[a] = l[b]) : ¬ (ikeys l).Nodup := by
  unfold List.Nodup
  rw [List.pairwise_iff_getElem]
  intro h
  have h2 := h a b (by rw [ikeys_len]; exact ha) (by rw [ikeys_len]; exact hb) hab
  rw [ikeys_get, ikeys_get] at h2
  exact h2 (by rw [e])
def allI (x : Om) : List Im := [x.left, x.right] ++ x.dels
theorem allI_keys (x : Om) : ikeys (allI x) = x.left.key :: x.right.key :: ikeys x.dels := rfl
theorem allI_dels (x : Om) {t : Nat} (h1 : 1 < t) (ht : t < (allI x).length) : (allI x)[t] ∈ x.dels := by
  unfold allI at ht ⊢
  rw [List.getElem_append_right (by simp; omega)]
  exact List.getElem_mem _
theorem hunk_pair {x : Om} {a b : Nat} (ha : a < (allI x).length) (hb : b < (allI x).length) (hab : a < b) (e : (allI x)[a] = (allI x)[b]) : hunkO x.key = false := by
  have h := not_nodup ha hb hab e
  rw [allI_keys] at h
  simp [hunkO, Om.key, h]
theorem hunk_made {x : Om} {t : Nat} (h1 : 1 < t) (ht : t < (allI x).length) (h : madeI (allI x)[t].key = false) : hunkO x.key = false := by
  have hm := allI_dels x h1 ht
  have h2 : (ikeys x.dels).all madeI = false := by
    rw [List.all_eq_false]
    exact ⟨(allI x)[t].key, List.mem_map.2 ⟨_, hm, rfl⟩, by rw [h]; simp⟩
  simp only [hunkO, Om.key, h2, Bool.and_false, Bool.false_and]
theorem all_made {x : Om} (h : ∀ t (ht : t < (allI x).length), 1 < t → madeI (allI x)[t].key = true) : (ikeys x.dels).all madeI = true := by
  rw [List.all_eq_true]
  intro k hk
  obtain ⟨i, hi, rfl⟩ := List.mem_map.1 hk
  obtain ⟨j, hj, rfl⟩ := List.getElem_of_mem hi
  have h2 := h (j + 2) (by simp [allI]; omega) (by omega)
  have e : (allI x)[j + 2]'(by simp [allI]; omega) = x.dels[j] := by
    unfold allI
    rw [List.getElem_append_right (by simp)]
    simp
  rw [e] at h2
  exact h2
set_option maxHeartbeats 8000000 in
set_option maxRecDepth 100000 in
theorem refhunk_any (x : Om) (w : World) (ox : x.Ok w w.heap.size) (sx : x.Mz) (hT : Tabs w) (r : Bool) (hr : hunkO x.key = r) :
    Calls Tryd.prog 26 #[.agg #[.int .i64 x.kind, .string x.self.p, .int .i64 x.self.n, .string x.parent.p, .int .i64 x.parent.n, .string x.dst.p, .int .i64 x.dst.n, .string x.name, .string x.dname, .string x.left.p, .int .i64 x.left.n, .string x.right.p, .int .i64 x.right.n, .slice x.a1 x.dels.length x.c1, .int .i64 x.first, .slice x.a2 x.lines.length x.c2]] w fun e w' => e = .returned (.bool r) ∧ Below w.heap.size w w' := by
  subst hr
  obtain ⟨hb, hx⟩ := op_box w x
  have HX := Lib.hid hx
  have HF := Lib.hid hb
  have OX := Lib.hid (ox.on hb)
  have HT := Lib.hid (Tabs.on hT hb)
  have hgg : w.heap.size < (w.alloc (.cells #[.int .i64 x.kind, .string x.self.p, .int .i64 x.self.n, .string x.parent.p, .int .i64 x.parent.n, .string x.dst.p, .int .i64 x.dst.n, .string x.name, .string x.dname, .string x.left.p, .int .i64 x.left.n, .string x.right.p, .int .i64 x.right.n, .slice x.a1 x.dels.length x.c1, .int .i64 x.first, .slice x.a2 x.lines.length x.c2] 27)).heap.size := hx.lt
  clear hb hx ox hT
  go_enter Tryd.func26, Tryd.ntmps26
  go_upto_region 1 with (fail)
  generalize (w.alloc (.cells #[.int .i64 x.kind, .string x.self.p, .int .i64 x.self.n, .string x.parent.p, .int .i64 x.parent.n, .string x.dst.p, .int .i64 x.dst.n, .string x.name, .string x.dname, .string x.left.p, .int .i64 x.left.n, .string x.right.p, .int .i64 x.right.n, .slice x.a1 x.dels.length x.c1, .int .i64 x.first, .slice x.a2 x.lines.length x.c2] 27)) = wb at *
  have hc := op_cells HX.out
  have c_leftp := hc.leftp
  have c_leftn := hc.leftn
  have c_rightp := hc.rightp
  have c_rightn := hc.rightn
  have c_dels := hc.dels
  have hal : Below wb.heap.size wb (wb.alloc (.cells #[.string x.left.p, .int .i64 x.left.n, .string x.right.p, .int .i64 x.right.n] 23)) := (Below.refl _ _).alloc (Nat.le_refl _) _
  have HO : Hid (OwnId (wb.alloc (.cells #[.string x.left.p, .int .i64 x.left.n, .string x.right.p, .int .i64 x.right.n] 23)) wb.heap.size (.slice (some ⟨wb.heap.size, 0, none⟩) 2 2) [x.left, x.right]) :=
    World.ownsRow_lit (base := wb.heap.size) (e := 23) (size := 2) wb #[.string x.left.p, .int .i64 x.left.n, .string x.right.p, .int .i64 x.right.n] 2 (Nat.le_refl _) (by decide) rfl
  have HD := Lib.hid (OX.out.on hal)
  have HAL := Lib.hid hal
  have HX1 := Lib.hid (HX.out.on hal)
  obtain ⟨M, hM⟩ : ∃ M, M = [x.left, x.right].length + x.dels.length := ⟨_, rfl⟩
  have HM := Lib.hid hM
  have hle : [x.left, x.right].length + x.dels.length ≤ maxLen := by have := sx.few; unfold maxLen; simp only [List.length_cons, List.length_nil]; omega
  have hle2 : ([x.left, x.right].length + x.dels.length) * idR.bytes ≤ 140737488355328 := by have := sx.few; show (_ + _) * 24 ≤ _; simp only [List.length_cons, List.length_nil]; omega
  clear hal hc hM
  go_wp2_with (at_builtin; refine idR.wpList_appendm rfl _ _ rfl wb.heap.size (.slice (some ⟨wb.heap.size, 0, none⟩) 2 2) [x.left, x.right] x.dels rfl HO.out x.a1 x.c1 x.dels.length rfl rfl HD.out.room1.1 HD.out.dels HAL.out.size hle hle2 M HM.out ?_)
  intro A3 c3 wc ho hg
  have hbc := Rk.Own.app HAL.out HO.out hg (Nat.le_refl _)
  obtain ⟨hn3, hrow, _, _, _⟩ := ho.parts
  have HROW : Hid (Ids wc wc.heap.size A3 (allI x)) := hrow
  have HN : Hid (M = (allI x).length) := hn3
  replace HX := Lib.hid (HX.out.on hbc)
  replace HF := Lib.hid (HF.out.trans (hbc.mono HF.out.size))
  replace OX := Lib.hid (OX.out.on hbc)
  replace HT := Lib.hid (Tabs.on HT.out hbc)
  have HG : Hid (Below wc.heap.size wc wc) := Below.refl _ _
  have hMb : M ≤ 9000000000000 := by have h1 := HM.out; have := sx.few; simp only [List.length_cons, List.length_nil] at h1; omega
  clear ho hg hbc hn3 hrow HO HD HAL HX1 HM hle hle2 c_leftp c_leftn c_rightp c_rightn c_dels hgg
  go_wp2
  go_loopw [4] (fun i wr => ∃ k : Nat, k ≤ M ∧ i = .int .i64 (k : Int) ∧ Hid (∀ a b (ha : a < (allI x).length) (hb : b < (allI x).length), a < b → b < k → (allI x)[a] ≠ (allI x)[b]) ∧ Hid (∀ t (ht : t < (allI x).length), 1 < t → t < k → madeI (allI x)[t].key = true) ∧ Hid (Below wc.heap.size wc wr)) (fun i _ => M - (intOf i).toNat)
  case atStart => exact ⟨0, Nat.zero_le _, rfl, fun a b _ _ _ h => absurd h (by omega), fun t _ _ h => absurd h (by omega), HG.out⟩
  case round =>
    clear HG
    obtain ⟨k, hk, rfl, hpair, hmade, hbr⟩ := hrel
    by_cases hlt : k < M
    · have hkl : k < (allI x).length := by have := HN.out; omega
      have HI0 : Hid (Below wc.heap.size wc wr) := hbr
      clear hbr
      go_wp2
      go_loopw [5] (fun j w2 => ∃ q : Nat, q ≤ k ∧ j = .int .i64 (q : Int) ∧ Hid (∀ a (ha : a < (allI x).length), a < q → (allI x)[a] ≠ (allI x)[k]) ∧ Hid (Below wc.heap.size wc w2)) (fun j _ => k - (intOf j).toNat)
      case atStart => exact ⟨0, Nat.zero_le _, rfl, fun a _ h => absurd h (by omega), HI0⟩
      case round =>
        clear HI0
        obtain ⟨q, hq, rfl, hin, hb2⟩ := hrel
        by_cases hqk : q < k
        · -- @P2
          have hql : q < (allI x).length := by omega
          have hR := HROW.out.on hb2.out
          obtain ⟨b, off, rfl, _, d0, d1⟩ := ids_get hR hql
          obtain ⟨b', off', e4, _, m0, m1⟩ := ids_get hR hkl
          cases e4
          have EQ := fun W => eql_id (allI x)[q] (allI x)[k] W
          have hcmp : ((allI x)[q] = (allI x)[k] ∧ Hid (hunkO x.key = false)) ∨ ((allI x)[q] ≠ (allI x)[k] ∧ Hid (∀ a (ha : a < (allI x).length), a < q + 1 → (allI x)[a] ≠ (allI x)[k])) := by
            by_cases e : (allI x)[q] = (allI x)[k]
            · exact .inl ⟨e, hunk_pair hql hkl hqk e⟩
            · refine .inr ⟨e, fun a ha h => ?_⟩
              by_cases ea : a = q
              · subst ea; exact e
              · exact hin.out a ha (by omega)
          have HBq : ∀ nq, Hid (Below wc.heap.size wc (wr.drewN nq)) := fun nq => below_drewN hb2.out nq
          have HFq : ∀ nq, Hid (Below w.heap.size w (wr.drewN nq)) := fun nq => HF.out.trans ((HBq nq).out.mono HF.out.size)
          have u0 : (0 : Int) ≤ (q : Int) := by omega
          have u1 : (q : Int) < (M : Int) := by omega
          have u2 : (0 : Int) ≤ (k : Int) := by omega
          have u3 : (k : Int) < (M : Int) := by omega
          generalize (allI x)[q] = y at *
          generalize (allI x)[k] = z at *
          clear hR hin hpair hmade hb2
          rcases hcmp with ⟨rfl, HV⟩ | ⟨hne, HNX⟩
          · rw [decide_eq_true rfl] at EQ
            go_wp2
            go_quiet (fail)
            go_wp2
            go_ret
            rw [HV.out]
            exact ⟨rfl, (HFq _).out⟩
          · rw [decide_eq_false hne] at EQ
            clear hne
            go_wp2
            go_quiet (fail)
            go_wp2
            go_roundw
            case rel => exact ⟨q + 1, by omega, by go_num, HNX, HBq _⟩
            case measure => simp [intOf]; omega
        · -- @P3
          obtain rfl : q = k := by omega
          have HPN : Hid (∀ a b (ha : a < (allI x).length) (hb : b < (allI x).length), a < b → b < q + 1 → (allI x)[a] ≠ (allI x)[b]) := fun a b ha hb hab hbq => by
            by_cases e : b = q
            · subst e; exact hin.out a ha hab
            · exact hpair.out a b ha hb hab (by omega)
          have u2 : (0 : Int) ≤ (q : Int) := by omega
          have u3 : (q : Int) < (M : Int) := by omega
          have u4 : ¬ (q : Int) < (q : Int) := by omega
          by_cases h1 : 1 < q
          · have hR := HROW.out.on hb2.out
            obtain ⟨b, off, rfl, _, d0, d1⟩ := ids_get hR hkl
            have u5 : (q : Int) > 1 := by omega
            have hsz : (allI x)[q].p.size ≤ 9223372036854775807 := sx.dels _ (allI_dels x h1 hkl)
            obtain ⟨bm, hbm⟩ : ∃ bm, madeI (allI x)[q].key = bm := ⟨_, rfl⟩
            have CQ := Lib.hid (refmade_any (allI x)[q] wr hsz bm hbm)
            have HNO : Hid (bm = false → hunkO x.key = false) := fun e => hunk_made h1 hkl (hbm.trans e)
            have HYES : Hid (bm = true → ∀ t (ht : t < (allI x).length), 1 < t → t < q + 1 → madeI (allI x)[t].key = true) := fun e t ht ht1 htq => by
              by_cases et : t = q
              · subst et; exact hbm.trans e
              · exact hmade.out t ht ht1 (by omega)
            generalize (allI x)[q] = z at *
            clear hR hin hpair hmade hbm hsz
            go_wp2_with fail
            refine CQ.out.mono ?_
            rintro e w4 ⟨rfl, hb⟩
            have HB4 := Lib.hid (hb2.out.trans (hb.mono hb2.out.size))
            have HF4 := Lib.hid (HF.out.trans (HB4.out.mono HF.out.size))
            clear hb CQ d0 d1 hb2
            cases bm
            · have HV : Hid (hunkO x.key = false) := HNO.out rfl
              clear HNO HYES
              go_wp2
              go_ret
              rw [HV.out]
              exact ⟨rfl, HF4.out⟩
            · have HMN : Hid (∀ t (ht : t < (allI x).length), 1 < t → t < q + 1 → madeI (allI x)[t].key = true) := HYES.out rfl
              clear HNO HYES
              go_wp2
              go_roundw
              case rel => exact ⟨q + 1, by omega, by go_num, HPN, HMN, HB4⟩
              case measure => simp [intOf]; omega
          · have u5 : ¬ (q : Int) > 1 := by omega
            have HMN : Hid (∀ t (ht : t < (allI x).length), 1 < t → t < q + 1 → madeI (allI x)[t].key = true) := fun t _ h1 h2 => absurd h1 (by omega)
            have HB4 : Hid (Below wc.heap.size wc wr) := hb2
            clear hin hpair hmade hb2
            go_wp2
            go_roundw
            case rel => exact ⟨q + 1, by omega, by go_num, HPN, HMN, HB4⟩
            case measure => simp [intOf]; omega
    · -- @P4
      obtain rfl : k = M := by omega
      have HND : Hid ((x.key.left :: x.key.right :: x.key.dels).Nodup) := by
        show (ikeys (allI x)).Nodup
        exact nodup_keys fun a b ha hb hab => hpair.out a b ha hb hab (by have := HN.out; omega)
      have HMD : Hid (x.key.dels.all madeI = true) := all_made fun t ht h1 => hmade.out t ht h1 (by have := HN.out; omega)
      have HG : Hid (Below wc.heap.size wc wr) := hbr
      replace HX := Lib.hid (HX.out.on hbr.out)
      replace HF := Lib.hid (HF.out.trans (hbr.out.mono HF.out.size))
      clear hpair hmade hbr HROW HN hlt hk
      obtain ⟨b1, hb1⟩ : ∃ b, orI x.key.left 1 = b := ⟨_, rfl⟩
      have HQ1 := Lib.hid hb1
      have hc := op_cells HX.out
      have c_leftp := hc.leftp
      have c_leftn := hc.leftn
      have CQ := Lib.hid (fun W (hW : Below wc.heap.size wc W) => refor_any x.left 1 W sx.left b1 hb1)
      clear hc hb1
      go_wp2_with fail
      refine (CQ.out _ HG.out).mono ?_
      rintro e w1 ⟨rfl, hb⟩
      replace HX := Lib.hid (HX.out.on hb)
      replace HF := Lib.hid (HF.out.trans (hb.mono HF.out.size))
      replace HG := Lib.hid (HG.out.trans (hb.mono HG.out.size))
      clear hb CQ c_leftp c_leftn
      cases b1
      · have HV : Hid (hunkO x.key = false) := by
          show _ = _
          simp [hunkO, HND.out, HMD.out, HQ1.out]
        go_wp2
        go_ret
        rw [HV.out]
        exact ⟨rfl, HF.out⟩
      · obtain ⟨b2, hb2⟩ : ∃ b, orI x.key.right 2 = b := ⟨_, rfl⟩
        have HQ2 := Lib.hid hb2
        have hc := op_cells HX.out
        have c_rightp := hc.rightp
        have c_rightn := hc.rightn
        have CQ := Lib.hid (fun W (hW : Below wc.heap.size wc W) => refor_any x.right 2 W sx.right b2 hb2)
        clear hc hb2
        go_wp2_with fail
        refine (CQ.out _ HG.out).mono ?_
        rintro e w2 ⟨rfl, hb⟩
        replace HX := Lib.hid (HX.out.on hb)
        replace HF := Lib.hid (HF.out.trans (hb.mono HF.out.size))
        replace HG := Lib.hid (HG.out.trans (hb.mono HG.out.size))
        clear hb CQ c_rightp c_rightn
        cases b2
        · have HV : Hid (hunkO x.key = false) := by
            show _ = _
            simp [hunkO, HND.out, HMD.out, HQ1.out, HQ2.out]
          go_wp2
          go_ret
          rw [HV.out]
          exact ⟨rfl, HF.out⟩
        · have hc := op_cells HX.out
          have c_first := hc.first
          clear hc
          by_cases h3 : 0 ≤ x.first
          · have q3_0 : x.first ≥ 0 := h3
            have HH3_0 : Hid (0 ≤ x.key.first) := h3
            clear h3
            by_cases h4 : x.first ≤ 1048576
            · have q4_0 : x.first ≤ 1048576 := h4
              have HH4_0 : Hid (x.key.first ≤ 1048576) := h4
              clear h4
              have hc := op_cells HX.out
              have c_dels := hc.dels
              clear hc
              by_cases h5 : x.dels.length ≤ 2000
              · have q5_0 : (x.dels.length : Int) ≤ 2000 := by omega
                have HH5_0 : Hid (x.key.dels.length ≤ 2000) := show (ikeys x.dels).length ≤ 2000 by rw [ikeys_len]; exact h5
                clear h5
                have hc := op_cells HX.out
                have c_dels := hc.dels
                have c_lines := hc.lines
                clear hc
                by_cases h6 : x.dels.length + x.lines.length = 0
                · have q6_0 : IntKind.i64.wrap ((x.dels.length : Int) + (x.lines.length : Int)) = (x.dels.length : Int) + (x.lines.length : Int) := IntWalk.i64_in _ (by have := sx.few; have := sx.rows; omega)
                  have q6_1 : ¬ (x.dels.length : Int) + (x.lines.length : Int) > 0 := by omega
                  have q6_2 : ¬ (0 : Int) < (x.dels.length : Int) + (x.lines.length : Int) := by omega
                  have HH6_0 : Hid (¬ 0 < x.key.dels.length + x.key.lines.length) := fun e => absurd (show 0 < (ikeys x.dels).length + x.lines.length from e) (by rw [ikeys_len]; omega)
                  clear h6
                  have HV : Hid (hunkO x.key = false) := by
                    show _ = _
                    simp [hunkO, HND.out, HMD.out, HQ1.out, HQ2.out, HH3_0.out, HH4_0.out, HH5_0.out, HH6_0.out]
                  go_wp2
                  go_ret
                  rw [HV.out]
                  exact ⟨rfl, HF.out⟩
                · have q6_0 : IntKind.i64.wrap ((x.dels.length : Int) + (x.lines.length : Int)) = (x.dels.length : Int) + (x.lines.length : Int) := IntWalk.i64_in _ (by have := sx.few; have := sx.rows; omega)
                  have q6_1 : (x.dels.length : Int) + (x.lines.length : Int) > 0 := by omega
                  have q6_2 : (0 : Int) < (x.dels.length : Int) + (x.lines.length : Int) := by omega
                  have HH6_0 : Hid (0 < x.key.dels.length + x.key.lines.length) := show 0 < (ikeys x.dels).length + x.lines.length by rw [ikeys_len]; omega
                  clear h6
                  obtain ⟨en, hen⟩ : ∃ en, checkN (toBs x.lines) = en := ⟨_, rfl⟩
                  have HEN := Lib.hid hen
                  have hc := op_cells HX.out
                  have c_lines := hc.lines
                  have CQ := Lib.hid (fun W (hW : Below wc.heap.size wc W) => refcheckk_any x.a2 x.lines x.c2 W (OX.out.on hW).lines (by have := sx.rows; omega) sx.lines (Tabs.on HT.out hW) en hen)
                  clear hc hen
                  go_wp2_with fail
                  refine (CQ.out _ HG.out).mono ?_
                  rintro e wz ⟨rfl, hb⟩
                  replace HF := Lib.hid (HF.out.trans (hb.mono HF.out.size))
                  clear hb CQ c_lines
                  by_cases h8 : en = 0
                  · have q8_0 : (en == 0) = true := by simpa using h8
                    have HH8_0 : Hid (checkN (toBs x.key.lines) = 0) := HEN.out.trans h8
                    clear h8
                    have HV : Hid (hunkO x.key = true) := by
                      show _ = _
                      simp [hunkO, HND.out, HMD.out, HQ1.out, HQ2.out, HH3_0.out, HH4_0.out, HH5_0.out, HH6_0.out, HH8_0.out]
                    go_wp2
                    go_ret
                    rw [HV.out]
                    exact ⟨rfl, HF.out⟩
                  · have q8_0 : (en == 0) = false := by simpa using h8
                    have HH8_0 : Hid (checkN (toBs x.key.lines) ≠ 0) := fun e => h8 (HEN.out.symm.trans e)
                    clear h8
                    have HV : Hid (hunkO x.key = false) := by
                      show _ = _
                      simp [hunkO, HND.out, HMD.out, HQ1.out, HQ2.out, HH3_0.out, HH4_0.out, HH5_0.out, HH6_0.out, HH8_0.out]
                    go_wp2
                    go_ret
                    rw [HV.out]
                    exact ⟨rfl, HF.out⟩
              · have q5_0 : ¬ (x.dels.length : Int) ≤ 2000 := by omega
                have HH5_0 : Hid (¬ x.key.dels.length ≤ 2000) := fun e => h5 (by have h9 : (ikeys x.dels).length ≤ 2000 := e; rwa [ikeys_len] at h9)
                clear h5
                have HV : Hid (hunkO x.key = false) := by
                  show _ = _
                  simp [hunkO, HND.out, HMD.out, HQ1.out, HQ2.out, HH3_0.out, HH4_0.out, HH5_0.out]
                go_wp2
                go_ret
                rw [HV.out]
                exact ⟨rfl, HF.out⟩
            · have q4_0 : ¬ x.first ≤ 1048576 := h4
              have HH4_0 : Hid (¬ x.key.first ≤ 1048576) := h4
              clear h4
              have HV : Hid (hunkO x.key = false) := by
                show _ = _
                simp [hunkO, HND.out, HMD.out, HQ1.out, HQ2.out, HH3_0.out, HH4_0.out]
              go_wp2
              go_ret
              rw [HV.out]
              exact ⟨rfl, HF.out⟩
          · have q3_0 : ¬ x.first ≥ 0 := h3
            have HH3_0 : Hid (¬ 0 ≤ x.key.first) := h3
            clear h3
            have HV : Hid (hunkO x.key = false) := by
              show _ = _
              simp [hunkO, HND.out, HMD.out, HQ1.out, HQ2.out, HH3_0.out]
            go_wp2
            go_ret
            rw [HV.out]
            exact ⟨rfl, HF.out⟩
end Go.Proofs.YtideldgblafhlaaDoor
