/- Which operations clash, plainly: both ways the same. A whole operation read out of a row's middle. The reference of layer 15: Patches. Pairs in arrays held against each other; an element of a row of any records. A whole patch read out of a variable. What a patch that comes in holds. Operations and patches that come in, whatever their sizes: what memory may hold. -/
import Derived.Lib.SlicesCompact
import Derived.Deep.MidRow
import Derived.Deep.RegionHeld
import Derived.Test.YtideldgblafhlaaDoorShelf
import Derived.BigQuiet
import Derived.Deep.QuietTactic
import Derived.Test.YtideldgblafhlaaDoorProg
import Derived.WalkKit
import Derived.WalkSpells
import Derived.Handy
import Derived.Lib.Hide
import Derived.Shelf.Strings.BuilderK
import Derived.Deep.CutRange
import Derived.ChangeKeysEq
import Derived.Test.YtideldgblafhlaaDoorCk21
namespace Go.Proofs.YtideldgblafhlaaDoor
open Go.RowKit
set_option linter.unusedVariables false

theorem firstC_zero (a : OpK) : ∀ q, firstC a q = 0 ↔ ∀ b ∈ q, clashO a b = 0
  | [] => by simp [firstC]
  | b :: r => by
    unfold firstC
    split
    · rename_i h
      rw [firstC_zero a r]
      simp [h]
    · rename_i h
      simp [h]
theorem patchesC_zero : ∀ p q, patchesC p q = 0 ↔ ∀ a ∈ p, ∀ b ∈ q, clashO a b = 0
  | [], q => by simp [patchesC]
  | a :: r, q => by
    unfold patchesC
    split
    · rename_i h
      rw [patchesC_zero r q]
      have h0 := (firstC_zero a q).1 h
      exact ⟨fun h2 x hx => (List.mem_cons.1 hx).elim (fun e => e ▸ h0) (h2 x), fun h2 x hx => h2 x (List.mem_cons_of_mem _ hx)⟩
    · rename_i h
      have h0 : ¬ ∀ b ∈ q, clashO a b = 0 := fun h2 => h ((firstC_zero a q).2 h2)
      exact ⟨fun h2 => absurd h2 h, fun h2 => absurd (h2 a (by simp)) h0⟩
theorem patchesC_comm (p q : List OpK) : (patchesC p q = 0) ↔ (patchesC q p = 0) := by
  rw [patchesC_zero, patchesC_zero]
  exact ⟨fun h a ha b hb => by rw [clashO_comm]; exact h b hb a ha, fun h a ha b hb => by rw [clashO_comm]; exact h b hb a ha⟩
/-- A part of the rows: what stands there ahead of a place. -/
theorem rowC_app (a : OpK) (i : Nat) : ∀ (k : Nat) (q r : List OpK), rowC a i k (q ++ r) = rowC a i k q ++ rowC a i (k + q.length) r
  | k, [], r => by simp [rowC]
  | k, b :: q, r => by
    simp only [List.cons_append, rowC, rowC_app a i (k + 1) q r, List.length_cons, List.append_assoc]
    rw [show k + 1 + q.length = k + (q.length + 1) from by omega]
theorem pairsG_app (q : List OpK) : ∀ (i : Nat) (p r : List OpK), pairsG q i (p ++ r) = pairsG q i p ++ pairsG q (i + p.length) r
  | i, [], r => by simp [pairsG]
  | i, a :: p, r => by
    simp only [List.cons_append, pairsG, pairsG_app q (i + 1) p r, List.length_cons, List.append_assoc]
    rw [show i + 1 + p.length = i + (p.length + 1) from by omega]
theorem rowC_take (a : OpK) (i : Nat) (q : List OpK) (k : Nat) (h : k < q.length) : rowC a i 0 (q.take (k + 1)) = rowC a i 0 (q.take k) ++ (if clashO a q[k] = 0 then [] else [(i, k)]) := by
  rw [List.take_succ_eq_append_getElem h, rowC_app, List.length_take, Nat.min_eq_left (by omega)]
  simp [rowC]
theorem pairsC_take (p q : List OpK) (k : Nat) (h : k < p.length) : pairsC (p.take (k + 1)) q = pairsC (p.take k) q ++ rowC p[k] k 0 q := by
  unfold pairsC
  rw [List.take_succ_eq_append_getElem h, pairsG_app, List.length_take, Nat.min_eq_left (by omega)]
  simp [pairsG]
end Go.Proofs.YtideldgblafhlaaDoor
namespace Go.Proofs.YtideldgblafhlaaDoor
open Go.RowKit
set_option linter.unusedVariables false

theorem yields_load_opm {ops : Array Oper} {S : World → Prop} {o : Oper} {a : Act} (hw : Region.wanted o (yielded ops a.tmps) = true) (x : Operand) (ho : o.op = .load 27 x) (b off : Nat) (z : Om) (hx : a.eval x = .pointer (some ⟨b, off, none⟩)) (hz : ∀ W, S W → W.rangeAt b off z.cells) :
    YieldsIf Tryd.prog ops S o (.agg #[.int .i64 z.kind, .string z.self.p, .int .i64 z.self.n, .string z.parent.p, .int .i64 z.parent.n, .string z.dst.p, .int .i64 z.dst.n, .string z.name, .string z.dname, .string z.left.p, .int .i64 z.left.n, .string z.right.p, .int .i64 z.right.n, .slice z.a1 z.dels.length z.c1, .int .i64 z.first, .slice z.a2 z.lines.length z.c2]) a :=
  yieldsIf_load_mid hw 27 x ho b off hx z.cells _ hz Tryd.underlying27 rfl (by kernel_rfl)
end Go.Proofs.YtideldgblafhlaaDoor
namespace Go.Proofs.YtideldgblafhlaaDoor
open Go.RowKit
set_option linter.unusedVariables false

theorem firstC_app (a : OpK) : ∀ q r, firstC a (q ++ r) = if firstC a q = 0 then firstC a r else firstC a q
  | [], r => by simp [firstC]
  | b :: q, r => by
    simp only [List.cons_append, firstC, firstC_app a q r]
    by_cases h : clashO a b = 0 <;> simp [h]
theorem patchesC_app (q : List OpK) : ∀ p r, patchesC (p ++ r) q = if patchesC p q = 0 then patchesC r q else patchesC p q
  | [], r => by simp [patchesC]
  | a :: p, r => by
    simp only [List.cons_append, patchesC, patchesC_app q p r]
    by_cases h : firstC a q = 0 <;> simp [h]
theorem firstC_take (a : OpK) (q : List OpK) (t : Nat) (h : t < q.length) (h0 : firstC a (q.take t) = 0) : firstC a (q.take (t + 1)) = clashO a q[t] := by
  rw [List.take_succ_eq_append_getElem h, firstC_app, if_pos h0]
  simp only [firstC]
  split
  · rename_i e
    exact e.symm
  · rfl
theorem firstC_at (a : OpK) (q : List OpK) (t : Nat) (h : t < q.length) (h0 : firstC a (q.take t) = 0) (hn : clashO a q[t] ≠ 0) : firstC a q = clashO a q[t] := by
  have e : firstC a q = firstC a (q.take (t + 1) ++ q.drop (t + 1)) := by rw [List.take_append_drop]
  have h1 := firstC_take a q t h h0
  rw [e, firstC_app, if_neg (by rw [h1]; exact hn), h1]
theorem patchesC_take (p q : List OpK) (k : Nat) (h : k < p.length) (h0 : patchesC (p.take k) q = 0) : patchesC (p.take (k + 1)) q = firstC p[k] q := by
  rw [List.take_succ_eq_append_getElem h, patchesC_app, if_pos h0]
  simp only [patchesC]
  split
  · rename_i e
    exact e.symm
  · rfl
theorem patchesC_at (p q : List OpK) (k : Nat) (h : k < p.length) (h0 : patchesC (p.take k) q = 0) (hn : firstC p[k] q ≠ 0) : patchesC p q = firstC p[k] q := by
  have e : patchesC p q = patchesC (p.take (k + 1) ++ p.drop (k + 1)) q := by rw [List.take_append_drop]
  have h1 := patchesC_take p q k h h0
  rw [e, patchesC_app, if_neg (by rw [h1]; exact hn), h1]
theorem okeys_get (l : List Om) (k : Nat) (h : k < l.length) : (okeys l)[k]'(by rw [okeys_len]; exact h) = l[k].key := by simp [okeys]
set_option maxHeartbeats 8000000 in
set_option maxRecDepth 100000 in
theorem refpatches_any (p q : Ptm) (w : World) (op : p.Ok w w.heap.size) (oq : q.Ok w w.heap.size) (np : ∀ o ∈ p.ops, o.dels.length ≤ 1000000) (nq : ∀ o ∈ q.ops, o.dels.length ≤ 1000000) (mp : p.ops.length ≤ 100000) (mq : q.ops.length ≤ 100000) :
    Calls Tryd.prog 14 #[.agg #[.string p.name, .slice p.a1 p.deps.length p.c1, .slice p.a2 p.ops.length p.c2], .agg #[.string q.name, .slice q.a1 q.deps.length q.c1, .slice q.a2 q.ops.length q.c2]] w fun e w' => e = .returned (.int .i64 (patchesC (okeys p.ops) (okeys q.ops))) ∧ Below w.heap.size w w' := by
  obtain ⟨hb, hx⟩ := pat_box w p
  obtain ⟨hb2, hy⟩ := pat_box (w.alloc (.cells #[.string p.name, .slice p.a1 p.deps.length p.c1, .slice p.a2 p.ops.length p.c2] 42)) q
  have s1 : (w.alloc (.cells #[.string p.name, .slice p.a1 p.deps.length p.c1, .slice p.a2 p.ops.length p.c2] 42)).heap.size = w.heap.size + 1 := by simp
  have HP := Lib.hid (hx.on hb2)
  have HF := Lib.hid (hb.trans (hb2.mono hb.size))
  have OP := Lib.hid ((op.on hb).on hb2).ops
  have OQ := Lib.hid ((oq.on hb).on hb2).ops
  rw [s1] at hy
  have HQ := Lib.hid hy
  have NP := Lib.hid np
  have NQ := Lib.hid nq
  clear hb hx hb2 hy op oq s1 np nq
  go_enter Tryd.func14, Tryd.ntmps14
  go_upto_region 1 with (fail)
  generalize (w.alloc (.cells #[.string p.name, .slice p.a1 p.deps.length p.c1, .slice p.a2 p.ops.length p.c2] 42)).alloc (.cells #[.string q.name, .slice q.a1 q.deps.length q.c1, .slice q.a2 q.ops.length q.c2] 42) = wb at *
  generalize (Value.agg #[.string p.name, .slice p.a1 p.deps.length p.c1, .slice p.a2 p.ops.length p.c2]) = vp
  generalize (Value.agg #[.string q.name, .slice q.a1 q.deps.length q.c1, .slice q.a2 q.ops.length q.c2]) = vq
  generalize hgq : w.heap.size + 1 = gq at HQ ⊢
  generalize hgp : w.heap.size = gp at HP ⊢
  clear hgq hgp
  have HG0 : Hid (Below wb.heap.size wb wb) := Below.refl _ _
  -- @P1
  go_wp2
  go_loopw [5] (fun i wr => ∃ k : Nat, k ≤ p.ops.length ∧ i = .int .i64 (k : Int) ∧ Hid (patchesC ((okeys p.ops).take k) (okeys q.ops) = 0) ∧ Hid (Below wb.heap.size wb wr)) (fun i _ => p.ops.length - (intOf i).toNat)
  case atStart => exact ⟨0, Nat.zero_le _, rfl, rfl, HG0.out⟩
  case round =>
    clear HG0
    obtain ⟨k, hk, rfl, HZ, HG⟩ := hrel
    have c_p := (HP.out.on HG.out).c2
    by_cases hlt : k < p.ops.length
    · have u1 : (k : Int) < (p.ops.length : Int) := by omega
      have u0 : (0 : Int) ≤ (k : Int) := by omega
      have HK : Hid (k < (okeys p.ops).length) := by show _ < _; rw [okeys_len]; exact hlt
      have HGI : Hid (Below wr.heap.size wr wr) := Below.refl _ _
      generalize hw0 : wr = w0 at *
      clear hw0
      -- @P2
      go_wp2
      go_loopw [6] (fun i wi => ∃ t : Nat, t ≤ q.ops.length ∧ i = .int .i64 (t : Int) ∧ Hid (firstC p.ops[k].key ((okeys q.ops).take t) = 0) ∧ Hid (Below w0.heap.size w0 wi)) (fun i _ => q.ops.length - (intOf i).toNat)
      case atStart => exact ⟨0, Nat.zero_le _, rfl, rfl, HGI.out⟩
      case round =>
        clear HGI c_p
        obtain ⟨t, ht, rfl, HY0, HI⟩ := hrel
        have c_q := (HQ.out.on (HG.out.trans (HI.out.mono HG.out.size))).c2
        generalize hwi : wr = wi at *
        clear hwi
        by_cases hlq : t < q.ops.length
        · have v1 : (t : Int) < (q.ops.length : Int) := by omega
          have v0 : (0 : Int) ≤ (t : Int) := by omega
          have HT : Hid (t < (okeys q.ops).length) := by show _ < _; rw [okeys_len]; exact hlq
          have HST : Hid (firstC p.ops[k].key ((okeys q.ops).take (t + 1)) = clashO p.ops[k].key q.ops[t].key) := by
            show _ = _
            rw [firstC_take _ _ t HT.out HY0.out, okeys_get _ _ hlq]
          have HAT : Hid (clashO p.ops[k].key q.ops[t].key ≠ 0 → patchesC (okeys p.ops) (okeys q.ops) = clashO p.ops[k].key q.ops[t].key) := fun h => by
            have h1 := firstC_at p.ops[k].key (okeys q.ops) t HT.out HY0.out (by rw [okeys_get _ _ hlq]; exact h)
            rw [okeys_get _ _ hlq] at h1
            have h2 := patchesC_at (okeys p.ops) (okeys q.ops) k HK.out HZ.out (by rw [okeys_get _ _ hlt, h1]; exact h)
            rw [h2, okeys_get _ _ hlt, h1]
          obtain ⟨bx, ox, eX, _, hcx⟩ := ((OP.out.on HG.out).on HI.out).1.get hlt
          obtain ⟨by_, oy, eY, _, hcy⟩ := ((OQ.out.on HG.out).on HI.out).1.get hlq
          have OX := Lib.hid (((OP.out.on HG.out).on HI.out).2 _ (List.getElem_mem hlt))
          have OY := Lib.hid (((OQ.out.on HG.out).on HI.out).2 _ (List.getElem_mem hlq))
          have IX := op_indexAt (c := p.c2) eX hlt
          have IY := op_indexAt (c := q.c2) eY hlq
          have RX := Lib.hid (op_rngm hcx)
          have RY := Lib.hid (op_rngm hcy)
          have nx := NP.out _ (List.getElem_mem hlt)
          have ny := NQ.out _ (List.getElem_mem hlq)
          clear hcx hcy eX eY HK HT HY0
          obtain ⟨x, hx⟩ : ∃ x, p.ops[k] = x := ⟨_, rfl⟩
          obtain ⟨y, hy⟩ : ∃ y, q.ops[t] = y := ⟨_, rfl⟩
          rw [hx] at nx OX RX
          rw [hy] at ny OY RY
          rw [hx, hy] at HST HAT
          have HX9 := Lib.hid hx
          have HY9 := Lib.hid hy
          clear hx hy
          obtain ⟨n, hn⟩ : ∃ n, clashO x.key y.key = n := ⟨_, rfl⟩
          have CS := Lib.hid (fun W (hW : Below wi.heap.size wi W) => refclash_any x y W (OX.out.on hW) (OY.out.on hW) nx ny n hn)
          rw [hn] at HST HAT
          have HDR : Hid (Below wi.heap.size wi wi.drew) := (Below.refl _ _).drew
          clear hn OX OY nx ny
          -- @P3
          go_upto_region 7 with (fail)
          go_cut [7] from 22 to 32 (fun v wx => v = .int .i64 n ∧ Hid (Below wi.heap.size wi wx))
          case first =>
            refine wp_region_noPanic ?_
            refine wp_region_held_drew (S := fun W => Below wi.heap.size wi W) (by kernel_rfl) HDR.out (fun hHeld => ?_)
            refine wpAnyH_take (i := 0) (oi := { dst := some 22, op := _, type := _, pos := _, after := _, guard := _ }) (v := .pointer (some ⟨gp, 2, none⟩)) rfl (by kernel_rfl) (by kernel_rfl) (by kernel_rfl) (fun _ _ _ h => h) (Or.inl ⟨by rfl, fun w' hSw => ?_⟩) (by assumption) ?_
            · (try dsimp only at hSw)
              go_simp
            try simp only [Act.put, List.setIfInBounds_toArray, List.set_cons_zero, List.set_cons_succ]
            refine wpAnyH_take (i := 1) (oi := { dst := some 23, op := _, type := _, pos := _, after := _, guard := _ }) (v := .slice p.a2 p.ops.length p.c2) rfl (by kernel_rfl) (by kernel_rfl) (by kernel_rfl) (fun _ _ _ h => h) (Or.inl ⟨by rfl, fun w' hSw => ?_⟩) (by assumption) ?_
            · (try dsimp only at hSw)
              have zp := (HP.out.on (HG.out.trans ((HI.out.trans (hSw.mono HI.out.size)).mono HG.out.size))).c2
              go_simp
            try simp only [Act.put, List.setIfInBounds_toArray, List.set_cons_zero, List.set_cons_succ]
            refine wpAnyH_take (i := 2) (oi := { dst := some 24, op := _, type := _, pos := _, after := _, guard := _ }) (v := .int .i64 (k : Int)) rfl (by kernel_rfl) (by kernel_rfl) (by kernel_rfl) (fun _ _ _ h => h) (Or.inl ⟨by rfl, fun w' hSw => ?_⟩) (by assumption) ?_
            · (try dsimp only at hSw)
              go_simp
            try simp only [Act.put, List.setIfInBounds_toArray, List.set_cons_zero, List.set_cons_succ]
            refine wpAnyH_take (i := 3) (oi := { dst := some 25, op := _, type := _, pos := _, after := _, guard := _ }) (v := .pointer (some ⟨bx, ox + k * 16, none⟩)) rfl (by kernel_rfl) (by kernel_rfl) (by kernel_rfl) (fun _ _ _ h => h) (Or.inl ⟨by rfl, fun w' hSw => ?_⟩) (by assumption) ?_
            · (try dsimp only at hSw)
              go_simp
            try simp only [Act.put, List.setIfInBounds_toArray, List.set_cons_zero, List.set_cons_succ]
            refine wpAnyH_take (i := 4) (oi := { dst := some 26, op := _, type := _, pos := _, after := _, guard := _ }) (v := .agg #[.int .i64 x.kind, .string x.self.p, .int .i64 x.self.n, .string x.parent.p, .int .i64 x.parent.n, .string x.dst.p, .int .i64 x.dst.n, .string x.name, .string x.dname, .string x.left.p, .int .i64 x.left.n, .string x.right.p, .int .i64 x.right.n, .slice x.a1 x.dels.length x.c1, .int .i64 x.first, .slice x.a2 x.lines.length x.c2]) rfl (by kernel_rfl) (by kernel_rfl) (by kernel_rfl) (fun _ _ _ h => h) (yields_load_opm (by rfl) (.tmp 25) rfl bx (ox + k * 16) x rfl (fun W hW => orange_on RX.out hW)) (by assumption) ?_
            try simp only [Act.put, List.setIfInBounds_toArray, List.set_cons_zero, List.set_cons_succ]
            refine wpAnyH_take (i := 5) (oi := { dst := some 27, op := _, type := _, pos := _, after := _, guard := _ }) (v := .pointer (some ⟨gq, 2, none⟩)) rfl (by kernel_rfl) (by kernel_rfl) (by kernel_rfl) (fun _ _ _ h => h) (Or.inl ⟨by rfl, fun w' hSw => ?_⟩) (by assumption) ?_
            · (try dsimp only at hSw)
              go_simp
            try simp only [Act.put, List.setIfInBounds_toArray, List.set_cons_zero, List.set_cons_succ]
            refine wpAnyH_take (i := 6) (oi := { dst := some 28, op := _, type := _, pos := _, after := _, guard := _ }) (v := .slice q.a2 q.ops.length q.c2) rfl (by kernel_rfl) (by kernel_rfl) (by kernel_rfl) (fun _ _ _ h => h) (Or.inl ⟨by rfl, fun w' hSw => ?_⟩) (by assumption) ?_
            · (try dsimp only at hSw)
              have zq := (HQ.out.on (HG.out.trans ((HI.out.trans (hSw.mono HI.out.size)).mono HG.out.size))).c2
              go_simp
            try simp only [Act.put, List.setIfInBounds_toArray, List.set_cons_zero, List.set_cons_succ]
            refine wpAnyH_take (i := 7) (oi := { dst := some 29, op := _, type := _, pos := _, after := _, guard := _ }) (v := .int .i64 (t : Int)) rfl (by kernel_rfl) (by kernel_rfl) (by kernel_rfl) (fun _ _ _ h => h) (Or.inl ⟨by rfl, fun w' hSw => ?_⟩) (by assumption) ?_
            · (try dsimp only at hSw)
              go_simp
            try simp only [Act.put, List.setIfInBounds_toArray, List.set_cons_zero, List.set_cons_succ]
            refine wpAnyH_take (i := 8) (oi := { dst := some 30, op := _, type := _, pos := _, after := _, guard := _ }) (v := .pointer (some ⟨by_, oy + t * 16, none⟩)) rfl (by kernel_rfl) (by kernel_rfl) (by kernel_rfl) (fun _ _ _ h => h) (Or.inl ⟨by rfl, fun w' hSw => ?_⟩) (by assumption) ?_
            · (try dsimp only at hSw)
              go_simp
            try simp only [Act.put, List.setIfInBounds_toArray, List.set_cons_zero, List.set_cons_succ]
            refine wpAnyH_take (i := 9) (oi := { dst := some 31, op := _, type := _, pos := _, after := _, guard := _ }) (v := .agg #[.int .i64 y.kind, .string y.self.p, .int .i64 y.self.n, .string y.parent.p, .int .i64 y.parent.n, .string y.dst.p, .int .i64 y.dst.n, .string y.name, .string y.dname, .string y.left.p, .int .i64 y.left.n, .string y.right.p, .int .i64 y.right.n, .slice y.a1 y.dels.length y.c1, .int .i64 y.first, .slice y.a2 y.lines.length y.c2]) rfl (by kernel_rfl) (by kernel_rfl) (by kernel_rfl) (fun _ _ _ h => h) (yields_load_opm (by rfl) (.tmp 30) rfl by_ (oy + t * 16) y rfl (fun W hW => orange_on RY.out hW)) (by assumption) ?_
            try simp only [Act.put, List.setIfInBounds_toArray, List.set_cons_zero, List.set_cons_succ]
            have XD := Lib.hid HDR.out
            generalize hwD : wi.drew = wD at *
            clear hwD HDR
            refine wpAnyH_ready (rs := [10]) (by kernel_rfl) (by simp) ?_
            refine AllReadyH.cons rfl (fun K hK => ?_) AllReadyH.nil
            go_simp
            go_at_call 11
            refine (CS.out _ XD.out).mono ?_
            rintro e wk ⟨rfl, hb⟩
            have XK := Lib.hid (XD.out.trans (hb.mono XD.out.size))
            clear hb
            refine hK.out _ _ XK.out (fun hHeld10 => ?_)
            clear hK K hHeld XD
            try simp only [Act.put, List.setIfInBounds_toArray, List.set_cons_zero, List.set_cons_succ]
            refine wpAnyH_take (i := 11) (oi := { dst := some 7, op := _, type := _, pos := _, after := _, guard := _ }) (v := .int .i64 n) rfl (by kernel_rfl) (by kernel_rfl) (by kernel_rfl) (fun _ _ _ h => h) (Or.inl ⟨by rfl, fun w' hSw => ?_⟩) (by assumption) ?_
            · (try dsimp only at hSw)
              go_simp
            try simp only [Act.put, List.setIfInBounds_toArray, List.set_cons_zero, List.set_cons_succ]
            refine wpAnyH_done (by kernel_rfl) ?_ _
            refine NoPanic.normal ?_
            go_wp2_with fail
            go_meet
            case rel => exact ⟨rfl, XK.out⟩
          case rest =>
            clear HDR CS RX RY IX IY
            obtain ⟨rfl, hcb⟩ := hcut
            obtain ⟨w6, hw6⟩ : ∃ w6, w6 = wc := ⟨_, rfl⟩
            subst hw6
            have HI2 := Lib.hid (HI.out.trans (hcb.out.mono HI.out.size))
            clear hcb HI c_q
            by_cases h0 : n = 0
            · have q0 : (n != 0) = false := by simp [h0]
              have HST0 : Hid (firstC p.ops[k].key ((okeys q.ops).take (t + 1)) = 0) := by show _ = _; rw [HX9.out, HST.out, h0]
              clear HST HAT h0 HX9 HY9
              go_wp2
              go_roundw
              case rel => exact ⟨t + 1, by omega, by go_num, HST0.out, HI2.out⟩
              case measure => simp [intOf]; omega
            · have q0 : (n != 0) = true := by simp [h0]
              have HV : Hid (patchesC (okeys p.ops) (okeys q.ops) = n) := HAT.out h0
              have HFN := Lib.hid (HF.out.trans ((HG.out.trans (HI2.out.mono HG.out.size)).mono HF.out.size))
              clear HST HAT h0 HX9 HY9 HZ
              go_wp2
              go_ret
              rw [HV.out]
              exact ⟨rfl, HFN.out⟩
        · have v1 : ¬ (t : Int) < (q.ops.length : Int) := by omega
          have HNX : Hid (patchesC ((okeys p.ops).take (k + 1)) (okeys q.ops) = 0) := by
            show _ = _
            rw [patchesC_take _ _ k HK.out HZ.out, okeys_get _ _ hlt]
            have h := HY0.out
            rw [List.take_of_length_le (by rw [okeys_len]; omega)] at h
            exact h
          have HGN := Lib.hid (HG.out.trans (HI.out.mono HG.out.size))
          clear HZ HY0
          go_wp2
          go_roundw
          case rel => exact ⟨k + 1, by omega, by go_num, HNX.out, HGN.out⟩
          case measure => simp [intOf]; omega
    · have u1 : ¬ (k : Int) < (p.ops.length : Int) := by omega
      have HV : Hid (patchesC (okeys p.ops) (okeys q.ops) = 0) := by
        show _ = _
        have h := HZ.out
        rw [List.take_of_length_le (by rw [okeys_len]; omega)] at h
        exact h
      have HFN := Lib.hid (HF.out.trans (HG.out.mono HF.out.size))
      clear HZ
      go_wp2
      go_ret
      rw [HV.out]
      exact ⟨rfl, HFN.out⟩
end Go.Proofs.YtideldgblafhlaaDoor
namespace Go.Proofs.YtideldgblafhlaaDoor
open Go.RowKit
set_option linter.unusedVariables false

theorem neq_i2 (a b c d : Int) (w : World) : (binOp .neq 45 (.agg #[.int .i64 a, .int .i64 b]) (.agg #[.int .i64 c, .int .i64 d])).run Tryd.prog w = .ok (.bool (!decide (a = c ∧ b = d))) w := by
  rw [run_neq_struct, eqin_i2, Result.andThen_ok]
end Go.Proofs.YtideldgblafhlaaDoor
namespace Go.Proofs.YtideldgblafhlaaDoor
open Go.RowKit
set_option linter.unusedVariables false

theorem wpList_load_patv {ops : Array Oper} {rest : List Oper} {op : Oper} {a : Act} {w : World} {Q : Exit → Act → World → Prop} (x : Operand) (g : Nat) (z : Ptm) (hz : PatAt w g z) (ho : op.op = .load 42 x) (hw : Region.wanted op (yielded ops a.tmps) = true)
    (hx : a.eval x = .pointer (some ⟨g, 0, none⟩)) (h : wpList Tryd.prog ops Q rest (a.put op.dst (.agg #[.string z.name, .slice z.a1 z.deps.length z.c1, .slice z.a2 z.ops.length z.c2])) w) : wpList Tryd.prog ops Q (op :: rest) a w :=
  wpList_step fun K hK => by
    simp only [hw, if_true]
    exact wp_load_mid 42 x ho g 0 hx [.string z.name, .slice z.a1 z.deps.length z.c1, .slice z.a2 z.ops.length z.c2] _ hz.rng Tryd.underlying42 rfl (by kernel_rfl) (hK _ _ h)
end Go.Proofs.YtideldgblafhlaaDoor
namespace Go.Proofs.YtideldgblafhlaaDoor
open Go.ChangeShapes Go.WideShapes Go.RowKit
set_option linter.unusedVariables false

theorem weigh_all {H : Type} {P : Program} {e : TypeId} {d : DataW H} : ∀ {ds : List (DataW H)}, d ∈ ds → ∀ n ∈ d.weights P e, n ∈ DataW.weightsAll P e ds
  | d0 :: ds, hd, n, hn => by
    simp only [DataW.weightsAll, List.mem_append]
    rcases List.mem_cons.1 hd with rfl | hd
    · exact .inl hn
    · exact .inr (weigh_all hd n hn)
theorem weigh_elem {H : Type} {P : Program} {t e : TypeId} {elems spare : List (DataW H)} (ht : P.underlying t = some (.slice e)) {d : DataW H} (hd : d ∈ elems)
    (h : ((DataW.slice elems spare).weights P t).all (· ≤ reachBytes) = true) : (d.weights P e).all (· ≤ reachBytes) = true := by
  refine List.all_eq_true.2 fun n hn => List.all_eq_true.1 h n ?_
  simp only [DataW.weights, ht, List.mem_cons, List.mem_append]
  exact .inr (.inl (weigh_all hd n hn))
end Go.Proofs.YtideldgblafhlaaDoor
namespace Go.Proofs.YtideldgblafhlaaDoor
open Go.ChangeShapes Go.WideShapes Go.RowKit
set_option linter.unusedVariables false

theorem open_opsz {H : Type} {enc : TypeId × Value → H} {W : World} {fuel : Nat} {v : Value} {y : DataW H × List MemPlace} (hf : DataW.trod enc Tryd.prog W 0 (fun _ => true) true fuel 29 [v] = some y) :
    ∃ (A : Option Addr) (hs : List Om) (cap : Nat), v = .slice A hs.length cap ∧ Ops W W.heap.size A hs ∧ hs.length ≤ 9223372036854775807 ∧ Room A hs.length cap ∧ ((y.1.weights Tryd.prog 29).all (· ≤ reachBytes) = true → ∀ h ∈ hs, h.Inz) := by
  have hlt := DataW.trod_lt fuel _ _ _ hf
  have hC : Tryd.prog.cellsOf 27 = 16 := by kernel_rfl
  rcases Go.Deep.open_slice Tryd.underlying29 hf with ⟨hcs, _⟩ | ⟨a, len, cap, m, n, D, Pl, hcs, _, hl, hm, hmm, hx, hi⟩
  · obtain rfl : v = .slice none 0 0 := by simpa using hcs
    exact ⟨none, [], 0, rfl, ⟨Rk.Row.nil, fun x hx => by simp at hx⟩, by simp, ⟨fun _ => rfl, Nat.le_refl _⟩, fun _ h hh => by simp at hh⟩
  · obtain rfl : v = .slice (some a) len cap := by simpa using hcs
    simp only [if_true] at hmm
    unfold maxLen at hm
    obtain ⟨b, off, spot⟩ := a
    have each : ∀ i, i < len → ∃ h : Om, (∀ j (u : Value), (opR.enc h)[j]? = some u → W.cell? ((⟨b, off, spot⟩ : Addr).add (i * 16 + j)) = some u) ∧ h.Ok W W.heap.size ∧ (((D i).weights Tryd.prog 27).all (· ≤ reachBytes) = true → h.Inz) := by
      intro i hil
      obtain ⟨cs', hc, ht'⟩ := hi i (by omega)
      rw [hC] at hc
      obtain ⟨_, hcl, hat⟩ := World.cells?_some hc
      obtain ⟨h, rfl, hok, hin⟩ := open_opz ht' hcl
      refine ⟨h, fun j u hj => ?_, hok, hin⟩
      rw [← Go.Deep.add_add]
      have hj2 : j < 16 := (List.getElem?_eq_some_iff.1 hj).1
      rw [hat j hj2]
      exact hj
    obtain ⟨hs, hlen, hp⟩ := listof_id len each
    subst hlen
    refine ⟨some ⟨b, off, spot⟩, hs, cap, rfl, ⟨fun hpos => ?_, fun x hx => ?_⟩, by omega, ⟨(fun e => by cases e), hl⟩, fun hall h hh => ?_⟩
    · have h0 := (hp 0 hpos).1 0 _ rfl
      have hspot : spot = none := by simpa [Addr.add] using World.cell?_spot h0
      subst hspot
      have e : ∀ i, (⟨b, off, none⟩ : Addr).add i = ⟨b, off + i, none⟩ := fun i => by unfold Addr.add; split <;> simp_all
      refine ⟨b, off, rfl, ?_, fun i u hu => ?_⟩
      · have h1 := (hp 0 hpos).1 0 _ rfl
        rw [e] at h1
        exact rec_cell_lt h1
      · have hi2 := (List.getElem?_eq_some_iff.1 hu).1
        rw [opR.cells_len] at hi2
        obtain ⟨j, r, hj, hr, rfl⟩ := opR.at_place hs hi2
        rw [opR.cells_get hs j hj r hr] at hu
        have h1 := (hp j hj).1 r u hu
        rw [e] at h1
        exact h1
    · obtain ⟨j, hj, rfl⟩ := List.getElem_of_mem hx
      exact (hp j hj).2.1
    · obtain ⟨j, hj, rfl⟩ := List.getElem_of_mem hh
      refine (hp j hj).2.2 ?_
      rw [hx] at hall
      exact weigh_elem Tryd.underlying29 (List.mem_map.2 ⟨j, List.mem_range.2 hj, rfl⟩) hall
set_option maxRecDepth 10000 in
theorem open_patz {H : Type} {enc : TypeId × Value → H} {W : World} {fuel : Nat} {cs : List Value} {y : DataW H × List MemPlace} (hf : DataW.trod enc Tryd.prog W 0 (fun _ => true) true fuel 42 cs = some y) (hl : cs.length = 3) :
    ∃ h : Ptm, cs = h.cells ∧ h.Ok W W.heap.size ∧ ((y.1.weights Tryd.prog 42).all (· ≤ reachBytes) = true → h.Inz) := by
  obtain ⟨xs, n, _, hx, _, hlen, hg⟩ := DataW.trod_struct Tryd.underlying42 hf
  match cs, hl with
  | [c0, c1, c2], _ =>
    match xs, hlen with
    | [y0, y1, y2], _ =>
      have g0 : DataW.trod enc Tryd.prog W 0 (fun _ => true) true n 9 [c0] = some y0 := hg 0 _ rfl
      have g1 : DataW.trod enc Tryd.prog W 0 (fun _ => true) true n 25 [c1] = some y1 := hg 1 _ rfl
      have g2 : DataW.trod enc Tryd.prog W 0 (fun _ => true) true n 29 [c2] = some y2 := hg 2 _ rfl
      obtain ⟨s0, rfl, -, z0⟩ := open_strw g0
      obtain ⟨A1, s1, p1, rfl, hs1, hm1, hr1⟩ := open_strs g1
      obtain ⟨A2, l2, p2, rfl, hs2, hm2, hr2, z2⟩ := open_opsz g2
      clear g0 g1 g2 hg
      refine ⟨⟨s0, A1, p1, lists s1, A2, p2, l2⟩, by simp [Ptm.cells, lists_len], ?_, fun h => ?_⟩
      · exact ⟨by rw [toBs_lists]; exact hs1, by rw [lists_len]; exact hr1, hs2, hr2⟩
      · rw [hx] at h
        have u := Tryd.underlying42
        have w2 := z2 (weigh_field u 2 rfl rfl h)
        exact ⟨⟨z0 (weigh_field u 0 rfl rfl h), by rw [lists_len]; exact hm1, hm2, fun o ho => (w2 o ho).inn⟩, fun o ho => (w2 o ho).mz⟩
end Go.Proofs.YtideldgblafhlaaDoor
