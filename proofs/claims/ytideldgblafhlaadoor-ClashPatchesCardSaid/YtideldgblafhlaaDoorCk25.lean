/- ClashPatches: why any two patches clash, and by which operations. -/
import Derived.Lib.SlicesCompact
import Derived.Test.YtideldgblafhlaaDoorShelf
import Derived.BigQuiet
import Derived.Deep.QuietTactic
import Derived.Test.YtideldgblafhlaaDoorProg
import Derived.WalkKit
import Derived.WalkSpells
import Derived.Handy
import Derived.Lib.Hide
import Derived.Shelf.Strings.BuilderK
import Derived.Test.YtideldgblafhlaaDoorCk24
namespace Go.Proofs.YtideldgblafhlaaDoor
open Go.RowKit
set_option linter.unusedVariables false

theorem pairs_at (p q : List OpK) (k t : Nat) (hk : k < p.length) (ht : t < q.length) (hn : clashO p[k] q[t] ≠ 0) :
    ∃ rest, pairsC p q = pairsC (p.take k) q ++ (rowC p[k] k 0 (q.take t) ++ ((k, t) :: rest)) := by
  have ep : p = p.take k ++ p[k] :: p.drop (k + 1) := by rw [List.getElem_cons_drop hk, List.take_append_drop]
  have eq : q = q.take t ++ q[t] :: q.drop (t + 1) := by rw [List.getElem_cons_drop ht, List.take_append_drop]
  have h1 : rowC p[k] k 0 q = rowC p[k] k 0 (q.take t) ++ ((k, t) :: rowC p[k] k (t + 1) (q.drop (t + 1))) := by
    have h := rowC_app p[k] k 0 (q.take t) (q[t] :: q.drop (t + 1))
    rw [← eq, List.length_take, Nat.min_eq_left (by omega), Nat.zero_add] at h
    rw [h]
    simp [rowC, hn]
  have h2 : pairsC p q = pairsC (p.take k) q ++ pairsG q k (p[k] :: p.drop (k + 1)) := by
    have h := pairsG_app q 0 (p.take k) (p[k] :: p.drop (k + 1))
    rw [← ep, List.length_take, Nat.min_eq_left (by omega), Nat.zero_add] at h
    exact h
  refine ⟨rowC p[k] k (t + 1) (q.drop (t + 1)) ++ pairsG q (k + 1) (p.drop (k + 1)), ?_⟩
  rw [h2]
  simp only [pairsG]
  rw [h1]
  simp [List.append_assoc]
theorem row_some {α β : Type} (f : α → β) {l a b c : List α} {x : α} (h : l = a ++ (b ++ (x :: c))) : ∃ hj : a.length + b.length < (l.map f).length, (l.map f)[a.length + b.length] = f x := by
  subst h
  refine ⟨by simp, ?_⟩
  rw [List.getElem_map]
  congr 1
  rw [List.getElem_append_right (by omega)]
  simp
theorem pairs_few (p q : List Om) (hp : p.length ≤ 40) (hq : q.length ≤ 40) : (pairsT p q).length ≤ 1600 := by
  unfold pairsT
  rw [List.length_map]
  have h := pairsG_len (okeys q) 0 (okeys p)
  rw [okeys_len, okeys_len] at h
  have h2 : p.length * q.length ≤ 40 * 40 := Nat.mul_le_mul hp hq
  unfold pairsC
  omega
set_option maxHeartbeats 8000000 in
set_option maxRecDepth 100000 in
theorem clashpatches_any (c : ClashC) (aw : AwC) (p q : Ptm) (w : World) (op : p.Ok w w.heap.size) (oq : q.Ok w w.heap.size) (ip : p.In) (iq : q.In) (mp : ∀ o ∈ p.ops, o.Mz) (mq : ∀ o ∈ q.ops, o.Mz) (hT : Tabs w) (hN : Nums w) :
    Calls Tryd.prog 4 #[p.val, q.val] w fun e w' => e = .returned (.bool true) ∧ Below w.heap.size w w' := by
  have HC := Lib.hid c
  have HAW := Lib.hid aw
  obtain ⟨hb, hx⟩ := pat_box w p
  obtain ⟨hb2, hy⟩ := pat_box (w.alloc (.cells #[.string p.name, .slice p.a1 p.deps.length p.c1, .slice p.a2 p.ops.length p.c2] 42)) q
  have s1 : (w.alloc (.cells #[.string p.name, .slice p.a1 p.deps.length p.c1, .slice p.a2 p.ops.length p.c2] 42)).heap.size = w.heap.size + 1 := by simp
  have hbb := hb.trans (hb2.mono hb.size)
  have HP := Lib.hid (hx.on hb2)
  have HB := Lib.hid hbb
  have OP := Lib.hid (op.on hbb)
  have OQ := Lib.hid (oq.on hbb)
  have HT := Lib.hid (Tabs.on hT hbb)
  have HN := Lib.hid (hN.on hbb)
  rw [s1] at hy
  have HQ := Lib.hid hy
  have IP := Lib.hid ip.ops
  have IQ := Lib.hid iq.ops
  have MP := Lib.hid mp
  have MQ := Lib.hid mq
  have LP := ip.many
  have LQ := iq.many
  clear hb hx hb2 hy hbb op oq s1 hT hN c aw ip iq mp mq
  unfold Ptm.val Ptm.cells
  go_enter Tryd.func4, Tryd.ntmps4
  go_upto_region 1 with (fail)
  generalize (w.alloc (.cells #[.string p.name, .slice p.a1 p.deps.length p.c1, .slice p.a2 p.ops.length p.c2] 42)).alloc (.cells #[.string q.name, .slice q.a1 q.deps.length q.c1, .slice q.a2 q.ops.length q.c2] 42) = wb at *
  generalize (Value.agg #[.string p.name, .slice p.a1 p.deps.length p.c1, .slice p.a2 p.ops.length p.c2]) = vp
  generalize (Value.agg #[.string q.name, .slice q.a1 q.deps.length q.c1, .slice q.a2 q.ops.length q.c2]) = vq
  generalize hgq : w.heap.size + 1 = gq at HQ ⊢
  generalize hgp : w.heap.size = gp at HP ⊢
  clear hgq hgp
  have c_p := HP.out.c2
  have CM := Lib.hid (lmay_any p.a2 p.ops p.c2 wb OP.out.ops IP.out MP.out LP HT.out)
  -- @P1
  go_wp2_with fail
  refine CM.out.mono ?_
  rintro e w1 ⟨r, rfl, hlt, hb⟩
  have HL1 := Lib.hid hlt.out
  replace HP := Lib.hid (HP.out.on hb)
  replace HQ := Lib.hid (HQ.out.on hb)
  replace OP := Lib.hid (OP.out.on hb)
  replace OQ := Lib.hid (OQ.out.on hb)
  replace HT := Lib.hid (Tabs.on HT.out hb)
  replace HN := Lib.hid (HN.out.on hb)
  replace HB := Lib.hid (HB.out.trans (hb.mono HB.out.size))
  clear hlt hb CM c_p
  cases r
  · go_wp2_with fail
    refine (HAW.out _ HT.out HN.out).mono ?_
    rintro e w2 ⟨rfl, hb⟩
    have HF := Lib.hid (HB.out.trans (hb.mono HB.out.size))
    clear hb HAW HT HN HP HQ OP OQ HB HC
    go_wp2
    go_ret
    exact ⟨rfl, HF.out⟩
  have c_q := HQ.out.c2
  have CM := Lib.hid (lmay_any q.a2 q.ops q.c2 w1 OQ.out.ops IQ.out MQ.out LQ HT.out)
  go_wp2_with fail
  refine CM.out.mono ?_
  rintro e w2 ⟨r, rfl, hlt, hb⟩
  have HL2 := Lib.hid hlt.out
  replace HP := Lib.hid (HP.out.on hb)
  replace HQ := Lib.hid (HQ.out.on hb)
  replace OP := Lib.hid (OP.out.on hb)
  replace OQ := Lib.hid (OQ.out.on hb)
  replace HT := Lib.hid (Tabs.on HT.out hb)
  replace HN := Lib.hid (HN.out.on hb)
  replace HB := Lib.hid (HB.out.trans (hb.mono HB.out.size))
  clear hlt hb CM c_q
  cases r
  · go_wp2_with fail
    refine (HAW.out _ HT.out HN.out).mono ?_
    rintro e w2 ⟨rfl, hb⟩
    have HF := Lib.hid (HB.out.trans (hb.mono HB.out.size))
    clear hb HAW HT HN HP HQ OP OQ HB HC
    go_wp2
    go_ret
    exact ⟨rfl, HF.out⟩
  obtain ⟨hf1, hm1, hl1⟩ := HL1.out (by simp)
  obtain ⟨hf2, hm2, hl2⟩ := HL2.out (by simp)
  have SP : Hid (OsIn w2 p.a2 p.ops) := ⟨OP.out.ops, hf1, hm1, hl1, IP.out⟩
  have SQ : Hid (OsIn w2 q.a2 q.ops) := ⟨OQ.out.ops, hf2, hm2, hl2, IQ.out⟩
  clear hm1 hl1 hm2 hl2 HL1 HL2 IP IQ MP MQ LP LQ
  have C1 := Lib.hid (HC.out.pairs p q w2 OP.out OQ.out SP.out SQ.out HT.out HN.out)
  unfold Ptm.val Ptm.cells at C1
  -- @P2
  go_wp2_with (first | ((with_reducible refine wpList_load_patv (.tmp 2) gp p HP.out ?_ ?_ ?_ ?_); rfl; rfl; rfl; simp only [Act.put, List.setIfInBounds_toArray, List.set_cons_zero, List.set_cons_succ]) | ((with_reducible refine wpList_load_patv (.tmp 3) gq q HQ.out ?_ ?_ ?_ ?_); rfl; rfl; rfl; simp only [Act.put, List.setIfInBounds_toArray, List.set_cons_zero, List.set_cons_succ]) | fail)
  refine C1.out.mono ?_
  rintro e w3 ⟨A1, c1, rfl, hr1, hb⟩
  have R1 := Lib.hid hr1
  replace HP := Lib.hid (HP.out.on hb)
  replace HQ := Lib.hid (HQ.out.on hb)
  replace SP := Lib.hid (SP.out.on hb)
  replace SQ := Lib.hid (SQ.out.on hb)
  replace OP := Lib.hid (OP.out.on hb)
  replace OQ := Lib.hid (OQ.out.on hb)
  replace HT := Lib.hid (Tabs.on HT.out hb)
  replace HN := Lib.hid (HN.out.on hb)
  replace HB := Lib.hid (HB.out.trans (hb.mono HB.out.size))
  have hpf := pairs_few p.ops q.ops hf1 hf2
  have HAT : Hid (∀ (k t : Nat) (hk : k < p.ops.length) (ht : t < q.ops.length), clashO p.ops[k].key q.ops[t].key ≠ 0 → ∃ hj : (pairsC ((okeys p.ops).take k) (okeys q.ops)).length + (rowC p.ops[k].key k 0 ((okeys q.ops).take t)).length < (pairsT p.ops q.ops).length, (pairsT p.ops q.ops)[(pairsC ((okeys p.ops).take k) (okeys q.ops)).length + (rowC p.ops[k].key k 0 ((okeys q.ops).take t)).length] = ((k : Int), (t : Int))) := fun k t hk ht hn => by
    obtain ⟨rest, hr⟩ := pairs_at (okeys p.ops) (okeys q.ops) k t (by rw [okeys_len]; exact hk) (by rw [okeys_len]; exact ht) (by rw [okeys_get _ _ hk, okeys_get _ _ ht]; exact hn)
    rw [okeys_get _ _ hk] at hr
    exact row_some (fun z : Nat × Nat => ((z.1 : Int), (z.2 : Int))) hr
  have HTOT : Hid ((pairsT p.ops q.ops).length = (pairsC (okeys p.ops) (okeys q.ops)).length) := by show _ = _; simp [pairsT]
  obtain ⟨N, hN0⟩ : ∃ N, (pairsT p.ops q.ops).length = N := ⟨_, rfl⟩
  have HNN := Lib.hid hN0
  rw [hN0] at hpf ⊢
  generalize pairsT p.ops q.ops = lt at *
  have HG0 : Hid (Below w3.heap.size w3 w3) := Below.refl _ _
  clear hb hr1 C1 hN0
  generalize (Value.agg #[.string p.name, .slice p.a1 p.deps.length p.c1, .slice p.a2 p.ops.length p.c2]) = vp2
  generalize (Value.agg #[.string q.name, .slice q.a1 q.deps.length q.c1, .slice q.a2 q.ops.length q.c2]) = vq2
  -- @P3
  go_wp2
  go_loopw [6, 7] (fun av iv wr => ∃ (k m : Nat), k ≤ p.ops.length ∧ m ≤ 1600 ∧ av = .int .i64 (m : Int) ∧ iv = .int .i64 (k : Int) ∧ Hid (m = (pairsC ((okeys p.ops).take k) (okeys q.ops)).length) ∧ Hid (Below w3.heap.size w3 wr)) (fun _ iv _ => p.ops.length - (intOf iv).toNat)
  case atStart => exact ⟨0, 0, Nat.zero_le _, Nat.zero_le _, rfl, rfl, rfl, HG0.out⟩
  case round =>
    clear HG0
    obtain ⟨k, m, hk, hm, rfl, rfl, HM, HG⟩ := hrel
    have c_p := (HP.out.on HG.out).c2
    by_cases hlt : k < p.ops.length
    · have u1 : (k : Int) < (p.ops.length : Int) := by omega
      have u0 : (0 : Int) ≤ (k : Int) := by omega
      have HGI : Hid (Below wr.heap.size wr wr) := Below.refl _ _
      generalize hw0 : wr = w0 at *
      clear hw0
      -- @P4
      go_wp2
      go_loopw [6, 8] (fun av iv wi => ∃ (t j : Nat), t ≤ q.ops.length ∧ j ≤ 1600 ∧ av = .int .i64 (j : Int) ∧ iv = .int .i64 (t : Int) ∧ Hid (j = m + (rowC p.ops[k].key k 0 ((okeys q.ops).take t)).length) ∧ Hid (Below w0.heap.size w0 wi)) (fun _ iv _ => q.ops.length - (intOf iv).toNat)
      case atStart => exact ⟨0, m, Nat.zero_le _, hm, rfl, rfl, rfl, HGI.out⟩
      case round =>
        clear HGI c_p
        obtain ⟨t, j, ht, hj, rfl, rfl, HJ, HI⟩ := hrel
        have c_q := (HQ.out.on (HG.out.trans (HI.out.mono HG.out.size))).c2
        generalize hwi : wr = wi at *
        clear hwi
        by_cases hlq : t < q.ops.length
        · have v1 : (t : Int) < (q.ops.length : Int) := by omega
          have v0 : (0 : Int) ≤ (t : Int) := by omega
          have HST : Hid ((rowC p.ops[k].key k 0 ((okeys q.ops).take (t + 1))).length = (rowC p.ops[k].key k 0 ((okeys q.ops).take t)).length + (if clashO p.ops[k].key q.ops[t].key = 0 then 0 else 1)) := by
            show _ = _
            rw [rowC_take _ _ _ t (by rw [okeys_len]; exact hlq), okeys_get _ _ hlq, List.length_append]
            split <;> rfl
          have HA := Lib.hid (HAT.out k t hlt hlq)
          obtain ⟨bx, ox, eX, _, hcx⟩ := ((SP.out.on HG.out).on HI.out).ops.1.get hlt
          obtain ⟨by_, oy, eY, _, hcy⟩ := ((SQ.out.on HG.out).on HI.out).ops.1.get hlq
          have OX := Lib.hid (((SP.out.on HG.out).on HI.out).ops.2 _ (List.getElem_mem hlt))
          have OY := Lib.hid (((SQ.out.on HG.out).on HI.out).ops.2 _ (List.getElem_mem hlq))
          have IX := op_indexAt (c := p.c2) eX hlt
          have IY := op_indexAt (c := q.c2) eY hlq
          have RX := Lib.hid (op_rngm hcx)
          have RY := Lib.hid (op_rngm hcy)
          have nx : p.ops[k].dels.length ≤ 1000000 := Nat.le_trans (SP.out.lt _ (List.getElem_mem hlt)).few (by decide)
          have ny : q.ops[t].dels.length ≤ 1000000 := Nat.le_trans (SQ.out.lt _ (List.getElem_mem hlq)).few (by decide)
          clear hcx hcy eX eY
          obtain ⟨x, hx⟩ : ∃ x, p.ops[k] = x := ⟨_, rfl⟩
          obtain ⟨y, hy⟩ : ∃ y, q.ops[t] = y := ⟨_, rfl⟩
          rw [hx] at nx OX RX
          rw [hy] at ny OY RY HST HA
          have HX9 := Lib.hid hx
          rw [hx] at HST HA HJ
          clear hx hy
          obtain ⟨n, hn⟩ : ∃ n, clashO x.key y.key = n := ⟨_, rfl⟩
          have CS := Lib.hid (fun W (hW : Below wi.heap.size wi W) => refclash_any x y W (OX.out.on hW) (OY.out.on hW) nx ny n hn)
          rw [hn] at HST HA
          have HDR : Hid (Below wi.heap.size wi wi.drew) := (Below.refl _ _).drew
          clear hn OX OY nx ny
          -- @P5
          go_upto_region 11 with (fail)
          go_cut [49] from 38 to 49 (fun v wx => v = .bool (n == 0) ∧ Hid (Below wi.heap.size wi wx))
          case first =>
            refine wp_region_noPanic ?_
            refine wp_region_held_drew (S := fun W => Below wi.heap.size wi W) (by kernel_rfl) HDR.out (fun hHeld => ?_)
            refine wpAnyH_take (i := 0) (oi := { dst := some 38, op := _, type := _, pos := _, after := _, guard := _ }) (v := .pointer (some ⟨gp, 2, none⟩)) rfl (by kernel_rfl) (by kernel_rfl) (by kernel_rfl) (fun _ _ _ h => h) (Or.inl ⟨by rfl, fun w' hSw => ?_⟩) (by assumption) ?_
            · (try dsimp only at hSw)
              go_simp
            try simp only [Act.put, List.setIfInBounds_toArray, List.set_cons_zero, List.set_cons_succ]
            refine wpAnyH_take (i := 1) (oi := { dst := some 39, op := _, type := _, pos := _, after := _, guard := _ }) (v := .slice p.a2 p.ops.length p.c2) rfl (by kernel_rfl) (by kernel_rfl) (by kernel_rfl) (fun _ _ _ h => h) (Or.inl ⟨by rfl, fun w' hSw => ?_⟩) (by assumption) ?_
            · (try dsimp only at hSw)
              have zp := (HP.out.on (HG.out.trans ((HI.out.trans (hSw.mono HI.out.size)).mono HG.out.size))).c2
              go_simp
            try simp only [Act.put, List.setIfInBounds_toArray, List.set_cons_zero, List.set_cons_succ]
            refine wpAnyH_take (i := 2) (oi := { dst := some 40, op := _, type := _, pos := _, after := _, guard := _ }) (v := .int .i64 (k : Int)) rfl (by kernel_rfl) (by kernel_rfl) (by kernel_rfl) (fun _ _ _ h => h) (Or.inl ⟨by rfl, fun w' hSw => ?_⟩) (by assumption) ?_
            · (try dsimp only at hSw)
              go_simp
            try simp only [Act.put, List.setIfInBounds_toArray, List.set_cons_zero, List.set_cons_succ]
            refine wpAnyH_take (i := 3) (oi := { dst := some 41, op := _, type := _, pos := _, after := _, guard := _ }) (v := .pointer (some ⟨bx, ox + k * 16, none⟩)) rfl (by kernel_rfl) (by kernel_rfl) (by kernel_rfl) (fun _ _ _ h => h) (Or.inl ⟨by rfl, fun w' hSw => ?_⟩) (by assumption) ?_
            · (try dsimp only at hSw)
              go_simp
            try simp only [Act.put, List.setIfInBounds_toArray, List.set_cons_zero, List.set_cons_succ]
            refine wpAnyH_take (i := 4) (oi := { dst := some 42, op := _, type := _, pos := _, after := _, guard := _ }) (v := .agg #[.int .i64 x.kind, .string x.self.p, .int .i64 x.self.n, .string x.parent.p, .int .i64 x.parent.n, .string x.dst.p, .int .i64 x.dst.n, .string x.name, .string x.dname, .string x.left.p, .int .i64 x.left.n, .string x.right.p, .int .i64 x.right.n, .slice x.a1 x.dels.length x.c1, .int .i64 x.first, .slice x.a2 x.lines.length x.c2]) rfl (by kernel_rfl) (by kernel_rfl) (by kernel_rfl) (fun _ _ _ h => h) (yields_load_opm (by rfl) (.tmp 41) rfl bx (ox + k * 16) x rfl (fun W hW => orange_on RX.out hW)) (by assumption) ?_
            try simp only [Act.put, List.setIfInBounds_toArray, List.set_cons_zero, List.set_cons_succ]
            refine wpAnyH_take (i := 5) (oi := { dst := some 43, op := _, type := _, pos := _, after := _, guard := _ }) (v := .pointer (some ⟨gq, 2, none⟩)) rfl (by kernel_rfl) (by kernel_rfl) (by kernel_rfl) (fun _ _ _ h => h) (Or.inl ⟨by rfl, fun w' hSw => ?_⟩) (by assumption) ?_
            · (try dsimp only at hSw)
              go_simp
            try simp only [Act.put, List.setIfInBounds_toArray, List.set_cons_zero, List.set_cons_succ]
            refine wpAnyH_take (i := 6) (oi := { dst := some 44, op := _, type := _, pos := _, after := _, guard := _ }) (v := .slice q.a2 q.ops.length q.c2) rfl (by kernel_rfl) (by kernel_rfl) (by kernel_rfl) (fun _ _ _ h => h) (Or.inl ⟨by rfl, fun w' hSw => ?_⟩) (by assumption) ?_
            · (try dsimp only at hSw)
              have zq := (HQ.out.on (HG.out.trans ((HI.out.trans (hSw.mono HI.out.size)).mono HG.out.size))).c2
              go_simp
            try simp only [Act.put, List.setIfInBounds_toArray, List.set_cons_zero, List.set_cons_succ]
            refine wpAnyH_take (i := 7) (oi := { dst := some 45, op := _, type := _, pos := _, after := _, guard := _ }) (v := .int .i64 (t : Int)) rfl (by kernel_rfl) (by kernel_rfl) (by kernel_rfl) (fun _ _ _ h => h) (Or.inl ⟨by rfl, fun w' hSw => ?_⟩) (by assumption) ?_
            · (try dsimp only at hSw)
              go_simp
            try simp only [Act.put, List.setIfInBounds_toArray, List.set_cons_zero, List.set_cons_succ]
            refine wpAnyH_take (i := 8) (oi := { dst := some 46, op := _, type := _, pos := _, after := _, guard := _ }) (v := .pointer (some ⟨by_, oy + t * 16, none⟩)) rfl (by kernel_rfl) (by kernel_rfl) (by kernel_rfl) (fun _ _ _ h => h) (Or.inl ⟨by rfl, fun w' hSw => ?_⟩) (by assumption) ?_
            · (try dsimp only at hSw)
              go_simp
            try simp only [Act.put, List.setIfInBounds_toArray, List.set_cons_zero, List.set_cons_succ]
            refine wpAnyH_take (i := 9) (oi := { dst := some 47, op := _, type := _, pos := _, after := _, guard := _ }) (v := .agg #[.int .i64 y.kind, .string y.self.p, .int .i64 y.self.n, .string y.parent.p, .int .i64 y.parent.n, .string y.dst.p, .int .i64 y.dst.n, .string y.name, .string y.dname, .string y.left.p, .int .i64 y.left.n, .string y.right.p, .int .i64 y.right.n, .slice y.a1 y.dels.length y.c1, .int .i64 y.first, .slice y.a2 y.lines.length y.c2]) rfl (by kernel_rfl) (by kernel_rfl) (by kernel_rfl) (fun _ _ _ h => h) (yields_load_opm (by rfl) (.tmp 46) rfl by_ (oy + t * 16) y rfl (fun W hW => orange_on RY.out hW)) (by assumption) ?_
            try simp only [Act.put, List.setIfInBounds_toArray, List.set_cons_zero, List.set_cons_succ]
            have XD := Lib.hid HDR.out
            generalize hwD : wi.drew = wD at *
            clear hwD HDR
            refine wpAnyH_ready (rs := [10]) (by kernel_rfl) (by simp) ?_
            refine AllReadyH.cons rfl (fun K hK => ?_) AllReadyH.nil
            go_simp
            go_at_call 11
            refine (CS.out _ XD.out).mono ?_
            rintro e wk ⟨rfl, hb⟩
            have XK := Lib.hid (XD.out.trans (hb.mono XD.out.size))
            clear hb
            refine hK.out _ _ XK.out (fun hHeld10 => ?_)
            clear hK K hHeld XD
            try simp only [Act.put, List.setIfInBounds_toArray, List.set_cons_zero, List.set_cons_succ]
            refine wpAnyH_take (i := 11) (oi := { dst := some 49, op := _, type := _, pos := _, after := _, guard := _ }) (v := .bool (n == 0)) rfl (by kernel_rfl) (by kernel_rfl) (by kernel_rfl) (fun _ _ _ h => h) (Or.inl ⟨by rfl, fun w' hSw => ?_⟩) (by assumption) ?_
            · (try dsimp only at hSw)
              go_simp
            try simp only [Act.put, List.setIfInBounds_toArray, List.set_cons_zero, List.set_cons_succ]
            refine wpAnyH_done (by kernel_rfl) ?_ _
            refine NoPanic.normal ?_
            go_wp2_with fail
            go_meet
            case rel => exact ⟨rfl, XK.out⟩
          case rest =>
            clear HDR CS RX RY IX IY
            obtain ⟨rfl, hcb⟩ := hcut
            obtain ⟨w6, hw6⟩ : ∃ w6, w6 = wc := ⟨_, rfl⟩
            subst hw6
            have HI2 := Lib.hid (HI.out.trans (hcb.out.mono HI.out.size))
            clear hcb HI c_q
            by_cases h0 : n = 0
            · have q0 : (n == 0) = true := by simp [h0]
              have HJ2 : Hid (j = m + (rowC p.ops[k].key k 0 ((okeys q.ops).take (t + 1))).length) := by show _ = _; rw [HX9.out, HST.out, if_pos h0]; exact HJ.out
              clear HST HA h0 HX9 HJ
              go_wp2
              go_roundw
              case rel => exact ⟨t + 1, j, by omega, hj, rfl, by go_num, HJ2.out, HI2.out⟩
              case measure => simp [intOf]; omega
            · have q0 : (n == 0) = false := by simp [h0]
              obtain ⟨hjl, hget⟩ := HA.out h0
              have hje : (pairsC ((okeys p.ops).take k) (okeys q.ops)).length + (rowC x.key k 0 ((okeys q.ops).take t)).length = j := by rw [HJ.out, HM.out]
              have hjl2 : j < lt.length := by rw [← hje]; exact hjl
              have hget2 : lt[j] = ((k : Int), (t : Int)) := by
                rw [← hget]
                congr 1
                exact hje.symm
              have hjn : j < N := by rw [← HNN.out]; exact hjl2
              obtain ⟨bl, ol, el, _, hrl⟩ := i2_get (R1.out.on (HG.out.trans (HI2.out.mono HG.out.size))) hjl2
              rw [hget2] at hrl
              have IL := i2_indexAt (n := N) (c := c1) el hjn
              have RL := Lib.hid hrl
              have EQ := fun W => neq_i2 (k : Int) (t : Int) (k : Int) (t : Int) W
              simp only [and_self, decide_true, Bool.not_true] at EQ
              have j0 : (0 : Int) ≤ (j : Int) := by omega
              have j1 : ¬ (j : Int) ≥ (N : Int) := by omega
              have HJ2 : Hid (j + 1 = m + (rowC p.ops[k].key k 0 ((okeys q.ops).take (t + 1))).length) := by show _ = _; rw [HX9.out, HST.out, if_neg h0]; have := HJ.out; omega
              clear HST HA h0 HX9 HJ hjl hget hje hjl2 hget2 el hrl
              -- @P6
              go_wp2_with (first | ((with_reducible refine wpList_load_i2 (.tmp 57) bl (ol + j * 2) (k : Int) (t : Int) RL.out ?_ ?_ ?_ ?_); rfl; rfl; rfl; simp only [Act.put, List.setIfInBounds_toArray, List.set_cons_zero, List.set_cons_succ]) | fail)
              go_roundw
              case rel => exact ⟨t + 1, j + 1, by omega, by omega, by go_num, by go_num, HJ2.out, HI2.out⟩
              case measure => simp [intOf]; omega
        · have v1 : ¬ (t : Int) < (q.ops.length : Int) := by omega
          have HM2 : Hid (j = (pairsC ((okeys p.ops).take (k + 1)) (okeys q.ops)).length) := by
            show _ = _
            have h := HJ.out
            rw [List.take_of_length_le (by rw [okeys_len]; omega)] at h
            rw [pairsC_take _ _ k (by rw [okeys_len]; exact hlt), okeys_get _ _ hlt, List.length_append, ← HM.out]
            exact h
          have HGN := Lib.hid (HG.out.trans (HI.out.mono HG.out.size))
          clear HJ HM
          go_wp2
          go_roundw
          case rel => exact ⟨k + 1, j, by omega, hj, rfl, by go_num, HM2.out, HGN.out⟩
          case measure => simp [intOf]; omega
    · have u1 : ¬ (k : Int) < (p.ops.length : Int) := by omega
      have HMN : Hid (m = N) := by
        show _ = _
        have h := HM.out
        rw [List.take_of_length_le (by rw [okeys_len]; omega)] at h
        rw [h, ← HTOT.out]
        exact HNN.out
      have hb := HG.out
      replace HP := Lib.hid (HP.out.on hb)
      replace HQ := Lib.hid (HQ.out.on hb)
      replace SP := Lib.hid (SP.out.on hb)
      replace SQ := Lib.hid (SQ.out.on hb)
      replace OP := Lib.hid (OP.out.on hb)
      replace OQ := Lib.hid (OQ.out.on hb)
      replace HT := Lib.hid (Tabs.on HT.out hb)
      replace HN := Lib.hid (HN.out.on hb)
      replace HB := Lib.hid (HB.out.trans (hb.mono HB.out.size))
      clear hb HG R1 HAT HM HTOT HNN
      generalize hw3 : wr = w4 at *
      clear hw3
      obtain ⟨n, hn⟩ : ∃ n, patchesC (okeys p.ops) (okeys q.ops) = n := ⟨_, rfl⟩
      have HNV := Lib.hid hn
      have C2 := Lib.hid (HC.out.patches p q w4 OP.out OQ.out SP.out SQ.out HT.out HN.out)
      rw [hn] at C2
      unfold Ptm.val Ptm.cells at C2
      clear hn
      -- @P7
      go_wp2_with (first | ((with_reducible refine wpList_load_patv (.tmp 2) gp p HP.out ?_ ?_ ?_ ?_); rfl; rfl; rfl; simp only [Act.put, List.setIfInBounds_toArray, List.set_cons_zero, List.set_cons_succ]) | ((with_reducible refine wpList_load_patv (.tmp 3) gq q HQ.out ?_ ?_ ?_ ?_); rfl; rfl; rfl; simp only [Act.put, List.setIfInBounds_toArray, List.set_cons_zero, List.set_cons_succ]) | fail)
      refine C2.out.mono ?_
      rintro e w5 ⟨rfl, hb⟩
      replace HP := Lib.hid (HP.out.on hb)
      replace HQ := Lib.hid (HQ.out.on hb)
      replace SP := Lib.hid (SP.out.on hb)
      replace SQ := Lib.hid (SQ.out.on hb)
      replace OP := Lib.hid (OP.out.on hb)
      replace OQ := Lib.hid (OQ.out.on hb)
      replace HT := Lib.hid (Tabs.on HT.out hb)
      replace HN := Lib.hid (HN.out.on hb)
      replace HB := Lib.hid (HB.out.trans (hb.mono HB.out.size))
      clear hb C2 c_p
      generalize (Value.agg #[.string p.name, .slice p.a1 p.deps.length p.c1, .slice p.a2 p.ops.length p.c2]) = vp3
      generalize (Value.agg #[.string q.name, .slice q.a1 q.deps.length q.c1, .slice q.a2 q.ops.length q.c2]) = vq3
      go_wp2_with fail
      refine (HAW.out _ HT.out HN.out).mono ?_
      rintro e w6 ⟨rfl, hb⟩
      replace HP := Lib.hid (HP.out.on hb)
      replace HQ := Lib.hid (HQ.out.on hb)
      replace SP := Lib.hid (SP.out.on hb)
      replace SQ := Lib.hid (SQ.out.on hb)
      replace OP := Lib.hid (OP.out.on hb)
      replace OQ := Lib.hid (OQ.out.on hb)
      replace HT := Lib.hid (Tabs.on HT.out hb)
      replace HN := Lib.hid (HN.out.on hb)
      replace HB := Lib.hid (HB.out.trans (hb.mono HB.out.size))
      clear hb HAW
      have mn : ((m : Int) == (N : Int)) = true := by rw [HMN.out]; simp
      have C3 := Lib.hid (refpatches_any p q w6 OP.out OQ.out (fun o ho => Nat.le_trans (SP.out.lt o ho).few (by decide)) (fun o ho => Nat.le_trans (SQ.out.lt o ho).few (by decide)) (Nat.le_trans SP.out.few (by decide)) (Nat.le_trans SQ.out.few (by decide)))
      rw [HNV.out] at C3
      -- @P8
      go_wp2_with (first | ((with_reducible refine wpList_load_patv (.tmp 2) gp p HP.out ?_ ?_ ?_ ?_); rfl; rfl; rfl; simp only [Act.put, List.setIfInBounds_toArray, List.set_cons_zero, List.set_cons_succ]) | ((with_reducible refine wpList_load_patv (.tmp 3) gq q HQ.out ?_ ?_ ?_ ?_); rfl; rfl; rfl; simp only [Act.put, List.setIfInBounds_toArray, List.set_cons_zero, List.set_cons_succ]) | fail)
      refine C3.out.mono ?_
      rintro e w7 ⟨rfl, hb⟩
      replace HP := Lib.hid (HP.out.on hb)
      replace HQ := Lib.hid (HQ.out.on hb)
      replace SP := Lib.hid (SP.out.on hb)
      replace SQ := Lib.hid (SQ.out.on hb)
      replace OP := Lib.hid (OP.out.on hb)
      replace OQ := Lib.hid (OQ.out.on hb)
      replace HT := Lib.hid (Tabs.on HT.out hb)
      replace HN := Lib.hid (HN.out.on hb)
      replace HB := Lib.hid (HB.out.trans (hb.mono HB.out.size))
      clear hb C3 mn
      obtain ⟨n2, hn2⟩ : ∃ n2, patchesC (okeys q.ops) (okeys p.ops) = n2 := ⟨_, rfl⟩
      have HEQ : Hid ((n == 0) = (n2 == 0)) := by
        show _ = _
        have h := patchesC_comm (okeys p.ops) (okeys q.ops)
        rw [HNV.out, hn2] at h
        by_cases e : n = 0
        · rw [e, h.1 e]
        · have e2 : ¬ n2 = 0 := fun e2 => e (h.2 e2)
          rw [beq_eq_false_iff_ne.2 e, beq_eq_false_iff_ne.2 e2]
      have C4 := Lib.hid (HC.out.patches q p w7 OQ.out OP.out SQ.out SP.out HT.out HN.out)
      rw [hn2] at C4
      unfold Ptm.val Ptm.cells at C4
      clear hn2
      obtain ⟨z, hz⟩ : ∃ z, (n2 == 0) = z := ⟨_, rfl⟩
      rw [hz] at HEQ
      have nz : (n == 0) = z := HEQ.out
      -- @P9
      go_wp2_with (first | ((with_reducible refine wpList_load_patv (.tmp 2) gp p HP.out ?_ ?_ ?_ ?_); rfl; rfl; rfl; simp only [Act.put, List.setIfInBounds_toArray, List.set_cons_zero, List.set_cons_succ]) | ((with_reducible refine wpList_load_patv (.tmp 3) gq q HQ.out ?_ ?_ ?_ ?_); rfl; rfl; rfl; simp only [Act.put, List.setIfInBounds_toArray, List.set_cons_zero, List.set_cons_succ]) | fail)
      refine C4.out.mono ?_
      rintro e w8 ⟨rfl, hb⟩
      have HF := Lib.hid (HB.out.trans (hb.mono HB.out.size))
      clear hb C4 HP HQ OP OQ SP SQ HT HN HC HB HEQ HNV
      cases z
      · go_wp2
        go_ret
        exact ⟨rfl, HF.out⟩
      · go_wp2
        go_ret
        exact ⟨rfl, HF.out⟩
end Go.Proofs.YtideldgblafhlaaDoor
