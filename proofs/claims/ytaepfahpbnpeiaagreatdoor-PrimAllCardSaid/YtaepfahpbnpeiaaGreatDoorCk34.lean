/- Package prim's Same, SameAll. -/
import Derived.Test.YtaepfahpbnpeiaaGreatDoorCk30
import Derived.Test.YtaepfahpbnpeiaaGreatDoorCk20
namespace Go.Proofs.YtaepfahpbnpeiaaGreatDoor
open Go.RowKit
set_option linter.unusedVariables false

instance : DecidableEq Pk := fun a b => if h : a.kind = b.kind ∧ a.path = b.path ∧ a.dst = b.dst ∧ a.at_ = b.at_ ∧ a.old = b.old ∧ a.new = b.new then isTrue (by
    cases a; cases b
    simp_all) else isFalse (fun e => h (by subst e; exact ⟨rfl, rfl, rfl, rfl, rfl, rfl⟩))
set_option maxHeartbeats 8000000 in
set_option maxRecDepth 100000 in
theorem psame_any (x y : Pm) (w : World) (d : Bool) (hd : decide (x.key = y.key) = d) (xo : x.Ok w w.heap.size) (yo : y.Ok w w.heap.size) (m1 : x.old.length ≤ 1000000) (m2 : x.new.length ≤ 1000000) (n1 : y.old.length ≤ 1000000) (n2 : y.new.length ≤ 1000000) :
    Calls Tryz.prog 25 #[x.val, y.val] w fun e w' => e = .returned (.bool d) ∧ Below w.heap.size w w' := by
  have hk : (x.key = y.key) ↔ (x.kind = y.kind ∧ x.p = y.p ∧ x.dst = y.dst ∧ x.at_ = y.at_ ∧ x.old = y.old ∧ x.new = y.new) := by
    unfold Pm.key
    simp only [Pk.mk.injEq]
    exact ⟨fun ⟨a, b, c, d, e, f⟩ => ⟨a, bytes_inj b, bytes_inj c, d, e, f⟩, fun ⟨a, b, c, d, e, f⟩ => ⟨a, by rw [b], by rw [c], d, e, f⟩⟩
  have hal : Below w.heap.size w ((w.alloc (.cells #[.int .i64 x.kind, .string x.p, .string x.dst, .int .i64 x.at_, .slice x.a1 x.old.length x.c1, .slice x.a2 x.new.length x.c2] 38)).alloc (.cells #[.int .i64 y.kind, .string y.p, .string y.dst, .int .i64 y.at_, .slice y.a1 y.old.length y.c1, .slice y.a2 y.new.length y.c2] 38)) := ((Below.refl _ _).alloc (Nat.le_refl _) _).alloc (by simp) _
  have C1 := lsame_q x.a1 y.a1 x.old y.old x.c1 y.c1 ((w.alloc (.cells #[.int .i64 x.kind, .string x.p, .string x.dst, .int .i64 x.at_, .slice x.a1 x.old.length x.c1, .slice x.a2 x.new.length x.c2] 38)).alloc (.cells #[.int .i64 y.kind, .string y.p, .string y.dst, .int .i64 y.at_, .slice y.a1 y.old.length y.c1, .slice y.a2 y.new.length y.c2] 38)) _ rfl (xo.on hal).h.old (yo.on hal).h.old m1 n1
  have C2 := fun q => lsame_qq x.a2 y.a2 x.new y.new x.c2 y.c2 ((w.alloc (.cells #[.int .i64 x.kind, .string x.p, .string x.dst, .int .i64 x.at_, .slice x.a1 x.old.length x.c1, .slice x.a2 x.new.length x.c2] 38)).alloc (.cells #[.int .i64 y.kind, .string y.p, .string y.dst, .int .i64 y.at_, .slice y.a1 y.old.length y.c1, .slice y.a2 y.new.length y.c2] 38)) _ rfl (xo.on hal).h.new (yo.on hal).h.new m2 n2 q
  have HA := Lib.hid hal
  clear xo yo hal m1 m2 n1 n2
  unfold Pm.val
  by_cases h1 : x.kind = y.kind
  · by_cases h2 : x.p = y.p
    · by_cases h3 : x.dst = y.dst
      · by_cases h4 : x.at_ = y.at_
        · have e1 : d = (decide (x.old = y.old) && decide (x.new = y.new)) := by
            rw [← hd, ← Bool.decide_and]
            congr 1
            exact propext ⟨fun h => ⟨(hk.1 h).2.2.2.2.1, (hk.1 h).2.2.2.2.2⟩, fun h => hk.2 ⟨h1, h2, h3, h4, h.1, h.2⟩⟩
          have HE := Lib.hid e1
          have s1 : (x.kind == y.kind) = true := by simpa using h1
          have s2 : (x.p.toList == y.p.toList) = true := by rw [str_beq]; exact decide_eq_true h2
          have s3 : (x.dst.toList == y.dst.toList) = true := by rw [str_beq]; exact decide_eq_true h3
          have s4 : (x.at_ == y.at_) = true := by simpa using h4
          clear hk hd h1 h2 h3 h4 e1
          generalize decide (x.old = y.old) = o1 at *
          generalize decide (x.new = y.new) = o2 at *
          have HD1 := Lib.hid C1
          have HD2 := Lib.hid C2
          clear C1 C2
          generalize x.old.length = xm1 at *
          generalize x.new.length = xm2 at *
          generalize y.old.length = ym1 at *
          generalize y.new.length = ym2 at *
          generalize x.a1 = xa1 at *
          generalize x.a2 = xa2 at *
          generalize x.c1 = xc1 at *
          generalize x.c2 = xc2 at *
          generalize y.a1 = ya1 at *
          generalize y.a2 = ya2 at *
          generalize y.c1 = yc1 at *
          generalize y.c2 = yc2 at *
          generalize x.kind = xk at *
          generalize x.p = xp at *
          generalize x.dst = xq at *
          generalize x.at_ = xt at *
          generalize y.kind = yk at *
          generalize y.p = yp at *
          generalize y.dst = yq at *
          generalize y.at_ = yt at *
          cases o1
          · go_enter Tryz.func25, Tryz.ntmps25
            go_wp2_with fail
            refine HD1.out.mono ?_
            rintro e w1 ⟨rfl, q, rfl⟩
            go_wp2
            go_ret
            rw [HE.out]
            exact ⟨rfl, below_drewN HA.out q⟩
          · go_enter Tryz.func25, Tryz.ntmps25
            go_wp2_with fail
            refine HD1.out.mono ?_
            rintro e w1 ⟨rfl, q, rfl⟩
            go_wp2_with fail
            refine (HD2.out q).mono ?_
            rintro e w2 ⟨rfl, q2, rfl⟩
            go_wp2
            go_ret
            rw [HE.out]
            exact ⟨rfl, below_drewN HA.out q2⟩
        · have e1 : d = false := by
            rw [← hd]
            exact decide_eq_false fun h => h4 (hk.1 h).2.2.2.1
          subst e1
          have s1 : (x.kind == y.kind) = true := by simpa using h1
          have s2 : (x.p.toList == y.p.toList) = true := by rw [str_beq]; exact decide_eq_true h2
          have s3 : (x.dst.toList == y.dst.toList) = true := by rw [str_beq]; exact decide_eq_true h3
          have s4 : (x.at_ == y.at_) = false := by simpa using h4
          clear h1 h2 h3 h4 C1 C2 hk hd
          generalize x.kind = xk at *
          generalize x.p = xp at *
          generalize x.dst = xq at *
          generalize x.at_ = xt at *
          generalize y.kind = yk at *
          generalize y.p = yp at *
          generalize y.dst = yq at *
          generalize y.at_ = yt at *
          go_enter Tryz.func25, Tryz.ntmps25
          go_wp2
          go_ret
          exact ⟨rfl, HA.out⟩
      · have e1 : d = false := by
          rw [← hd]
          exact decide_eq_false fun h => h3 (hk.1 h).2.2.1
        subst e1
        have s1 : (x.kind == y.kind) = true := by simpa using h1
        have s2 : (x.p.toList == y.p.toList) = true := by rw [str_beq]; exact decide_eq_true h2
        have s3 : (x.dst.toList == y.dst.toList) = false := str_ne h3
        clear h1 h2 h3 C1 C2 hk hd
        generalize x.kind = xk at *
        generalize x.p = xp at *
        generalize x.dst = xq at *
        generalize x.at_ = xt at *
        generalize y.kind = yk at *
        generalize y.p = yp at *
        generalize y.dst = yq at *
        generalize y.at_ = yt at *
        go_enter Tryz.func25, Tryz.ntmps25
        go_wp2
        go_ret
        exact ⟨rfl, HA.out⟩
    · have e1 : d = false := by
        rw [← hd]
        exact decide_eq_false fun h => h2 (hk.1 h).2.1
      subst e1
      have s1 : (x.kind == y.kind) = true := by simpa using h1
      have s2 : (x.p.toList == y.p.toList) = false := str_ne h2
      clear h1 h2 C1 C2 hk hd
      generalize x.kind = xk at *
      generalize x.p = xp at *
      generalize x.dst = xq at *
      generalize x.at_ = xt at *
      generalize y.kind = yk at *
      generalize y.p = yp at *
      generalize y.dst = yq at *
      generalize y.at_ = yt at *
      go_enter Tryz.func25, Tryz.ntmps25
      go_wp2
      go_ret
      exact ⟨rfl, HA.out⟩
  · have e1 : d = false := by
      rw [← hd]
      exact decide_eq_false fun h => h1 (hk.1 h).1
    subst e1
    have s1 : (x.kind == y.kind) = false := by simpa using h1
    clear h1 C1 C2 hk hd
    generalize x.kind = xk at *
    generalize x.p = xp at *
    generalize x.dst = xq at *
    generalize x.at_ = xt at *
    generalize y.kind = yk at *
    generalize y.p = yp at *
    generalize y.dst = yq at *
    generalize y.at_ = yt at *
    go_enter Tryz.func25, Tryz.ntmps25
    go_wp2
    go_ret
    exact ⟨rfl, HA.out⟩
set_option maxHeartbeats 4000000 in
set_option maxRecDepth 100000 in
theorem pequal_any (A A2 : Option Addr) (hs ks : List Pm) (cap cap2 : Nat) (w : World) (d : Bool) (hd : d = decide (pkeys hs = pkeys ks)) (hk : Ps w w.heap.size A hs) (gk : Ps w w.heap.size A2 ks) (hn : hs.length ≤ 1000000 ∧ ∀ x ∈ hs, x.Light) (gn : ks.length ≤ 1000000 ∧ ∀ x ∈ ks, x.Light) :
    Calls Tryz.prog 39 #[.slice A hs.length cap, .slice A2 ks.length cap2, .func (.func 25) #[] #[]] w fun e w' => e = .returned (.bool d) ∧ Below w.heap.size w w' := by
  have HN := hn.1
  have GN := gn.1
  have HD := Lib.hid hd
  clear hd
  by_cases hl : hs.length = ks.length
  · have Hl := Lib.hid hl
    have hb1 : (((hs.length : Int)) != (ks.length : Int)) = false := by simp; omega
    have HK := Lib.hid hk
    have GK := Lib.hid gk
    have HS := Lib.hid hn.2
    have GS := Lib.hid gn.2
    clear hl hk gk hn gn
    go_enter Tryz.func39, Tryz.ntmps39
    go_wp2
    go_loopw [17] (fun i wr => ∃ k : Nat, k ≤ hs.length ∧ i = .int .i64 (k : Int) ∧ Hid (∀ j (hj : j < hs.length) (hj2 : j < ks.length), j < k → hs[j].key = ks[j].key) ∧ Below w.heap.size w wr) (fun i _ => hs.length - (intOf i).toNat)
    case atStart => exact ⟨0, Nat.zero_le _, rfl, fun j _ _ h => absurd h (by omega), Below.refl _ _⟩
    case round =>
      obtain ⟨k, hk, rfl, hall, hb⟩ := hrel
      by_cases hlt : k < hs.length
      · have hlt2 : k < ks.length := by have := Hl.out; omega
        have hK := HK.out.on hb
        have gK := GK.out.on hb
        obtain ⟨b, off, rfl, bl1, h1, h2, h3, h4, h5, h6⟩ := hK.get hlt
        obtain ⟨b2, off2, rfl, bl2, g1, g2, g3, g4, g5, g6⟩ := gK.get hlt2
        have ok := hK.ok hs[k] (List.getElem_mem _)
        have ok2 := gK.ok ks[k] (List.getElem_mem _)
        have s1 := HS.out hs[k] (List.getElem_mem _)
        have s3 := GS.out ks[k] (List.getElem_mem _)
        have hba : Below wr.heap.size wr ((wr.alloc (.cells #[.int .i64 hs[k].kind, .string hs[k].p, .string hs[k].dst, .int .i64 hs[k].at_, .slice hs[k].a1 hs[k].old.length hs[k].c1, .slice hs[k].a2 hs[k].new.length hs[k].c2] 38)).alloc (.cells #[.int .i64 ks[k].kind, .string ks[k].p, .string ks[k].dst, .int .i64 ks[k].at_, .slice ks[k].a1 ks[k].old.length ks[k].c1, .slice ks[k].a2 ks[k].new.length ks[k].c2] 38)) :=
          ((Below.refl _ _).alloc (Nat.le_refl _) _).alloc (by simp) _
        have CS := psame_any hs[k] ks[k] _ _ rfl (ok.on hba) (ok2.on hba) (Nat.le_trans s1.old.1 (by decide)) (Nat.le_trans s1.new.1 (by decide)) (Nat.le_trans s3.old.1 (by decide)) (Nat.le_trans s3.new.1 (by decide))
        unfold Pm.val at CS
        have hbB := hb.trans (hba.mono hb.size)
        have hno : Hid (¬ (hs[k].key = ks[k].key) → decide (pkeys hs = pkeys ks) = false) := by
          intro hne
          rw [decide_eq_false_iff_not]
          intro e
          have e2 := congrArg (fun l => l[k]?) e
          simp only [pkeys, List.getElem?_map, List.getElem?_eq_getElem hlt, List.getElem?_eq_getElem hlt2, Option.map_some, Option.some.injEq] at e2
          exact hne e2
        have hyes : Hid (hs[k].key = ks[k].key → ∀ j (hj : j < hs.length) (hj2 : j < ks.length), j < k + 1 → hs[j].key = ks[j].key) := by
          intro he j hj hj2 hjk
          by_cases hjk2 : j = k
          · subst hjk2; exact he
          · exact hall.out j hj hj2 (by omega)
        by_cases he : hs[k].key = ks[k].key
        · have hnew := Lib.hid (hyes.out he)
          rw [decide_eq_true he] at CS
          have HC := Lib.hid CS
          have HB := Lib.hid hbB
          clear hyes hno he hall ok ok2 hK gK s1 s3 CS hba hbB
          generalize hs[k].kind = hn1 at *
          generalize hs[k].p = hn2 at *
          generalize hs[k].dst = hn3 at *
          generalize hs[k].at_ = hn4 at *
          generalize hs[k].a1 = hn5 at *
          generalize hs[k].old.length = hn6 at *
          generalize hs[k].c1 = hn7 at *
          generalize hs[k].a2 = hn8 at *
          generalize hs[k].new.length = hn9 at *
          generalize hs[k].c2 = hn10 at *
          generalize ks[k].kind = kn1 at *
          generalize ks[k].p = kn2 at *
          generalize ks[k].dst = kn3 at *
          generalize ks[k].at_ = kn4 at *
          generalize ks[k].a1 = kn5 at *
          generalize ks[k].old.length = kn6 at *
          generalize ks[k].c1 = kn7 at *
          generalize ks[k].a2 = kn8 at *
          generalize ks[k].new.length = kn9 at *
          generalize ks[k].c2 = kn10 at *
          go_wp2_with fail
          refine HC.out.mono ?_
          rintro e w1 ⟨rfl, hb1⟩
          have HB2 := Lib.hid (HB.out.trans (hb1.mono HB.out.size))
          clear hb1
          go_wp2
          go_roundw
          case rel => exact ⟨k + 1, by omega, by go_num, hnew, HB2.out⟩
          case measure => simp [intOf]; omega
        · have hfin := Lib.hid (hno.out he)
          rw [decide_eq_false he] at CS
          have HC := Lib.hid CS
          have HB := Lib.hid hbB
          clear hyes hno he hall ok ok2 hK gK s1 s3 CS hba hbB
          generalize hs[k].kind = hn1 at *
          generalize hs[k].p = hn2 at *
          generalize hs[k].dst = hn3 at *
          generalize hs[k].at_ = hn4 at *
          generalize hs[k].a1 = hn5 at *
          generalize hs[k].old.length = hn6 at *
          generalize hs[k].c1 = hn7 at *
          generalize hs[k].a2 = hn8 at *
          generalize hs[k].new.length = hn9 at *
          generalize hs[k].c2 = hn10 at *
          generalize ks[k].kind = kn1 at *
          generalize ks[k].p = kn2 at *
          generalize ks[k].dst = kn3 at *
          generalize ks[k].at_ = kn4 at *
          generalize ks[k].a1 = kn5 at *
          generalize ks[k].old.length = kn6 at *
          generalize ks[k].c1 = kn7 at *
          generalize ks[k].a2 = kn8 at *
          generalize ks[k].new.length = kn9 at *
          generalize ks[k].c2 = kn10 at *
          go_wp2_with fail
          refine HC.out.mono ?_
          rintro e w1 ⟨rfl, hb1⟩
          have HB2 := Lib.hid (HB.out.trans (hb1.mono HB.out.size))
          clear hb1
          go_wp2
          go_ret
          rw [HD.out, hfin.out]
          exact ⟨rfl, HB2.out⟩
      · have hk2 : k = hs.length := by omega
        subst hk2
        have hfin : Hid (decide (pkeys hs = pkeys ks) = true) := by
          show _ = _
          rw [decide_eq_true_eq]
          refine List.ext_getElem (by rw [pkeys_len, pkeys_len]; exact Hl.out) fun j h1 h2 => ?_
          rw [pkeys_len] at h1 h2
          simp only [pkeys, List.getElem_map]
          exact hall.out j h1 h2 h1
        clear hall
        go_wp2
        go_ret
        rw [HD.out, hfin.out]
        exact ⟨rfl, hb⟩
  · have hb1 : (((hs.length : Int)) != (ks.length : Int)) = true := by simp; omega
    have hfin : Hid (d = false) := by
      show _ = _
      rw [HD.out]
      exact decide_eq_false fun e => hl (by have := congrArg List.length e; rw [pkeys_len, pkeys_len] at this; exact this)
    clear hl hk gk hn gn
    go_enter Tryz.func39, Tryz.ntmps39
    go_wp2
    go_ret
    rw [hfin.out]
    exact ⟨rfl, Below.refl _ _⟩
set_option maxRecDepth 100000 in
theorem psameall_any (A A2 : Option Addr) (hs ks : List Pm) (cap cap2 : Nat) (w : World) (d : Bool) (hd : d = decide (pkeys hs = pkeys ks)) (hk : Ps w w.heap.size A hs) (gk : Ps w w.heap.size A2 ks) (hn : hs.length ≤ 1000000 ∧ ∀ x ∈ hs, x.Light) (gn : ks.length ≤ 1000000 ∧ ∀ x ∈ ks, x.Light) :
    Calls Tryz.prog 15 #[.slice A hs.length cap, .slice A2 ks.length cap2] w fun e w' => e = .returned (.bool d) ∧ Below w.heap.size w w' := by
  have C := Lib.hid (pequal_any A A2 hs ks cap cap2 w d hd hk gk hn gn)
  clear hd hk gk hn gn
  go_enter Tryz.func15, Tryz.ntmps15
  go_wp2_with fail
  refine C.out.mono ?_
  rintro e w1 ⟨rfl, hb⟩
  have HB := Lib.hid hb
  clear hb C
  go_wp2
  go_ret
  exact ⟨rfl, HB.out⟩
end Go.Proofs.YtaepfahpbnpeiaaGreatDoor
